/- What may stand behind a state. -/
import Derived.Test.YtejdfpieblkapaaGreatDoorG36b
import Derived.Test.YtejdfpieblkapaaGreatDoorH5
import Derived.Test.YtejdfpieblkapaaGreatDoorG36c
import Derived.Test.YtejdfpieblkapaaGreatDoorH6
import Derived.Test.YtejdfpieblkapaaGreatDoorH2
namespace Go.Proofs.YtejdfpieblkapaaGreatDoor
open Lib renaming hid → zh
open Go.RowKit Go.Shelf
attribute [local go_sem] Oper.semAt_some

set_option maxRecDepth 100000 in
set_option maxHeartbeats 4000000 in
theorem ahead_any (w : World) (mk n N n5 c5 cF g5 ga nw : Nat) (AF : Option Addr) (fo : Nat → List Nat) (at' : List Nat) (hn : 1 ≤ n) (hn5 : n < n5)
  (e1 : w.cell? ⟨mk, 1, none⟩ = some (.slice AF N cF)) (e5 : w.cell? ⟨mk, 260, none⟩ = some (.slice (some ⟨g5, 0, none⟩) n5 c5)) (e6 : w.cell? ⟨g5, n, none⟩ = some (bsV ga nw))
  (hfo : ∀ p < N, ∃ fg gp, AF = some ⟨fg, 0, none⟩ ∧ w.cell? ⟨fg, p, none⟩ = some (bsV gp nw) ∧ BsAt w gp (fo p) ∧ (fo p).length = nw)
  (ha : BsAt w ga at') (hla : at'.length = nw) (hlt : ∀ q, bt at' q = true → q < N) (hnw : nw = (N + 63) / 64) (hN : N ≤ 2000) (hT : TabH w) :
  Calls Tryz.prog 95 #[ptr mk, .int .i64 n] w fun e w' => ∃ g us, e = .returned (bsV g nw) ∧ BsAt w' g us ∧ us.length = nw ∧ w.heap.size ≤ g ∧ Below w.heap.size w w' ∧ ∀ q, bt us q = true ↔ ∃ p, bt at' p = true ∧ bt (fo p) q = true := by
 have HFO := zh hfo; have HA := zh ha; have HLA := zh hla; have HLT := zh hlt; have HNW := zh hnw; have HT := zh hT; have E1 := zh e1; have E5 := zh e5; have E6 := zh e6
 have hnw2 : nw ≤ 100 := by omega
 have hbw := (Below.refl _ w).alloc (Nat.le_refl _) (.cells #[ptr mk] 104)
 have hx0 := Boxed.new w 104 (ptr mk)
 clear hfo ha hla hlt hnw hT
 have hn0 : ¬ (n : Int) = 0 := by omega
 have hni : (n : Int) < n5 := by omega
 have hn00 : (0 : Int) ≤ n := by omega
 obtain ⟨b0, hb0⟩ : ∃ b0, b0 = w.heap.size := ⟨_, rfl⟩
 have e1' := cell_below hbw e1
 have e5' := cell_below hbw e5
 have e6' := cell_below hbw e6
 refine (callsIn_wide (n := 4)).1 ?_
 refine callsIn_of_wp_marks Tryz.func95 rfl trivial ?_ rfl
 simp only [Tryz.ntmps95, List.size_toArray, List.length_cons, List.length_nil, Nat.reduceAdd, Nat.reduceSub, Array.replicate_succ, Array.replicate_zero, List.push_toArray, List.append_toArray, List.nil_append, List.cons_append]
 refine wpIn_wide.2 ?_
 go_upto_region 1 with fail
 rw [← hb0] at hx0 ⊢
 generalize w.alloc (.cells #[ptr mk] 104) = w0 at hbw hx0 e1' e5' e6' ⊢
 have HX0 := zh hx0; have HBW := zh hbw
 have q0 := hx0.cell
 have HNEW := zh (bs_new w0 N (by omega))
 rw [← HNW.out] at HNEW
 have HB0 := zh hb0
 clear hx0 hbw e1 e5 e6 hb0
 go_wp2_with fail
 refine HNEW.out.mono ?_
 rintro e w1 ⟨rfl, hz, hb1⟩
 obtain ⟨gh, hgh⟩ : ∃ gh, gh = w0.heap.size := ⟨_, rfl⟩
 rw [← hgh] at hz ⊢
 have hal1 := (Below.refl _ w1).alloc (Nat.le_refl _) (.cells #[bsV gh nw] 87)
 have hx1 := Boxed.new w1 87 (bsV gh nw)
 have HGH := zh hgh
 clear hgh
 go_upto_region 4 with fail
 obtain ⟨b1, hb1e⟩ : ∃ b1, b1 = w1.heap.size := ⟨_, rfl⟩
 rw [← hb1e] at hx1 ⊢
 generalize w1.alloc (.cells #[bsV gh nw] 87) = w2 at hal1 hx1 ⊢
 have q1 := hx1.cell
 have q0' := cell_below hal1 (cell_below hb1 q0)
 have e5'' := cell_below hal1 (cell_below hb1 e5')
 have e6'' := cell_below hal1 (cell_below hb1 e6')
 have HX1 := zh hx1; have HZ := zh (hz.below hal1); have HB1E := zh hb1e
 have hsz : w.heap.size < w0.heap.size ∧ w0.heap.size < w1.heap.size ∧ w1.heap.size < w2.heap.size := ⟨by rw [← HB0.out]; exact lt_of_heap HX0.out, by rw [← HGH.out]; exact lt_of_heap hz.1, by rw [← hb1e]; exact lt_of_heap hx1⟩
 have HSZ := zh hsz
 have hbl : Below w.heap.size w w2 := (HBW.out.trans (hb1.mono HBW.out.size)).trans (hal1.mono (by omega))
 have HBL := zh hbl
 have HX0' := zh (show Boxed w2 b0 104 (ptr mk) from ((hal1.block b0 (by have := lt_of_heap HX0.out; omega)).trans ((hb1.block b0 (lt_of_heap HX0.out)).trans HX0.out)))
 clear hz hb1 hb1e hal1 hx1 HNEW q0 e5' e6' hbl hsz
 have HALL := zh (all_any w2 ga nw)
 have hal3 := (Below.refl _ w2).alloc (Nat.le_refl _) (.cells #[bsV ga nw] 87)
 have hx3 := Boxed.new w2 87 (bsV ga nw)
 obtain ⟨Bm, hBm⟩ : ∃ Bm, Bm = w2.heap.size := ⟨_, rfl⟩
 rw [← hBm] at hx3 HALL
 have HBM := zh hBm
 generalize w2.alloc (.cells #[bsV ga nw] 87) = w3 at hal3 hx3 HALL
 have HX3 := zh hx3
 have HX03 := zh (show Boxed w3 b0 104 (ptr mk) from (hal3.block b0 (lt_of_heap HX0'.out)).trans HX0'.out)
 have HX13 := zh (show Boxed w3 b1 87 (bsV gh nw) from (hal3.block b1 (lt_of_heap HX1.out)).trans HX1.out)
 have HZ3 := zh (HZ.out.below hal3)
 have HBL3 := zh (HBL.out.trans (hal3.mono HBL.out.size))
 have HA3 := zh (HA.out.below HBL3.out)
 have HT3 := zh (HT.out.keep (I := fun _ => True) (KeepI.below HBL3.out) trivial)
 clear hal3 hx3 hBm
 go_wp2_with fail
 refine HALL.out.mono ?_
 rintro e w9 ⟨rfl, hw9⟩
 rw [hw9]
 clear hw9 HALL q0' e5'' e6'' q1
 go_wp2_with fail
 refine (wpIn_wide (n := 4)).1 ?_
 refine wpIn_rangeFunc_ownG rfl (by decide) (gf := 90) (lb := #[ptr Bm]) rfl trivial (enters_of Tryz.func90 (by kernel_rfl) rfl)
  (all_stops_el (4 - 1) (by decide) Bm ga nw at' (fun k => k = ga ∨ k = 0) ⟨.inl rfl, .inr rfl⟩ HLA.out.symm (by omega) w3 (lt_of_heap HX3.out) HX3.out.cell HA3.out HT3.out) KeepI.trans (fun W l o o' _ ho hc _ => KeepI.put _ W l o o' ho hc) (Below.refl _ _) (fun _ => rfl)
  (fun pre W => Kb (fun i => i = gh) w3 W ∧ ∃ H', BsAt W gh H' ∧ H'.length = nw ∧ ∀ p, bt H' p = true ↔ ∃ x ∈ pre, ∃ q : Nat, x.1 = (q : Int) ∧ bt (fo q) p = true)
  (fun _ _ _ => False)
  (OwnFrom.and (ownFrom_kb (Nat.le_refl _)) ownFrom_bs)
  (fun _ _ _ _ _ hs _ _ => hs)
  ⟨Kb.refl _ _, _, HZ3.out, by simp, fun q => ⟨fun h => (by rw [bt_none] at h; cases h), fun h => (by obtain ⟨x, hx, _⟩ := h; cases hx)⟩⟩
  (fun x => { tmps := #[ptr mk, .int .i64 n, ptr b0, undef, .slice none 0 0, ptr b1, .int .i64 x.1, .int .i64 n, .bool false, undef, undef, undef, undef, ptr mk, .pointer (some ⟨mk, 0, none⟩), .pointer (some ⟨mk, 1, none⟩), .slice AF N cF, .int .i64 N, bsV gh nw, ptr mk, .pointer (some ⟨mk, 0, none⟩), .pointer (some ⟨mk, 260, none⟩), .slice (some ⟨g5, 0, none⟩) n5 c5, .int .i64 n, .pointer (some ⟨g5, n, none⟩), bsV ga nw, .func (.func 90) #[] #[ptr Bm], .int .i64 x.1, undef, undef, undef, undef, undef, undef, undef, undef, undef, undef], defers := [] }) ?assign2 ?body2 ?done2 ?stop2
 case assign2 =>
  intro l x W K hK
  gi_wp2
  exact hK
 case stop2 =>
  rintro D c pre W _ _ h _
  exact h.elim
 case body2 =>
  rintro l pre ⟨xv, hxm⟩ W ⟨hk, H', hz, hl, hq⟩ hlt
  obtain ⟨q, rfl, hbq⟩ := (sbits_get HLA.out HA.out.2 xv).1 hxm
  have hqN := HLT.out q hbq
  obtain ⟨fg, gp, rfl, d4, d5, d6⟩ := HFO.out q hqN
  have hgh := HGH.out; have hsz := HSZ.out; have hb1e := HB1E.out; have hb0e := HB0.out
  have hgp := lt_of_heap d5.1
  have hgaw := lt_of_heap HA.out.1
  have hBW : Below w.heap.size w W := HBL3.out.trans (hk.below HBL3.out.size (fun i hi => by omega))
  have d1 := cell_below hBW E1.out
  replace d4 := cell_below hBW d4
  have d5' := d5.below hBW
  have hcm := (show Boxed W b0 104 (ptr mk) from (hk.block b0 (lt_of_heap HX03.out) (by omega)).trans HX03.out).cell
  have hch := (show Boxed W b1 87 (bsV gh nw) from (hk.block b1 (lt_of_heap HX13.out) (by omega)).trans HX13.out).cell
  have HJ := zh (bs_join W.drew gh gp nw H' (fo q) hz d5' (by omega) hl.symm (by rw [hl, d6]) (by omega))
  have HX := zh (fun p => bt_jn H' (fo q) (by rw [hl, d6]) p)
  have HLL := zh (show (jn H' (fo q)).length = nw by rw [jn_len _ _ (by rw [hl, d6])]; exact hl)
  generalize jn H' (fo q) = H2 at HJ HX HLL
  have HD7 := zh (show ∀ p, bt (fo q) p = true ↔ bt (fo q) p = true from fun p => Iff.rfl)
  have HK := zh hk; have HZ := zh hz; have HQ := zh hq
  have hI : ∀ k, (k = ga ∨ k = 0) → k ≠ gh := by
   have h0w : 0 < w.heap.size := by
    obtain ⟨_, _, _, h0, _⟩ := HT.out
    exact lt_of_heap h0
   rintro k (rfl | rfl) <;> omega
  have HI := zh hI
  have hqi : (q : Int) < N := by omega
  have hq0 : (0 : Int) ≤ q := by omega
  generalize hxe : (⟨(q : Int), hxm⟩ : {x : Int // x ∈ sbits at' nw}) = x1
  have HXE := zh (show x1.1 = (q : Int) by rw [← hxe])
  clear hxe hk hz hl hq hI hxm hbq hlt d5 d5' d6 hgp hBW hgh hsz hb1e hb0e hgaw
  rw [show x1.1 = (q : Int) from HXE.out]
  gi_wp2
  have hcm' : W.drew.cell? ⟨b0, 0, none⟩ = some (ptr mk) := hcm
  have hch' : W.drew.cell? ⟨b1, 0, none⟩ = some (bsV gh nw) := hch
  have d1' : W.drew.cell? ⟨mk, 1, none⟩ = some (.slice (some ⟨fg, 0, none⟩) N cF) := d1
  have d4' : W.drew.cell? ⟨fg, q, none⟩ = some (bsV gp nw) := d4
  refine wpIn_region_inv (fun L a w' => ∃ v28 v29 v30 v31 v32 v33 v34 v35 v36 : Value, a = { tmps := #[ptr mk, .int .i64 n, ptr b0, undef, .slice none 0 0, ptr b1, .int .i64 q, .int .i64 n, .bool false, undef, undef, undef, undef, ptr mk, .pointer (some ⟨mk, 0, none⟩), .pointer (some ⟨mk, 1, none⟩), .slice (some ⟨fg, 0, none⟩) N cF, .int .i64 N, bsV gh nw, ptr mk, .pointer (some ⟨mk, 0, none⟩), .pointer (some ⟨mk, 260, none⟩), .slice (some ⟨g5, 0, none⟩) n5 c5, .int .i64 n, .pointer (some ⟨g5, n, none⟩), bsV ga nw, .func (.func 90) #[] #[ptr Bm], .int .i64 q, v28, v29, v30, v31, v32, v33, v34, v35, v36, undef], defers := [] } ∧ Cl9 L ∧ (L 8 = false → w' = W.drew) ∧ (L 0 = true → v28 = bsV gh nw) ∧ (L 1 = true → v29 = ptr mk) ∧ (L 2 = true → v30 = .pointer (some ⟨mk, 0, none⟩)) ∧ (L 3 = true → v31 = .pointer (some ⟨mk, 1, none⟩)) ∧ (L 4 = true → v32 = .slice (some ⟨fg, 0, none⟩) N cF) ∧ (L 5 = true → v33 = .int .i64 q) ∧ (L 6 = true → v34 = .pointer (some ⟨fg, q, none⟩)) ∧ (L 7 = true → v35 = bsV gp nw) ∧ (L 8 = true → BsAt w' gh H2 ∧ Kb (fun i => i = gh) W.drew w')) (by kernel_rfl) (by kernel_rfl) ?stepR ?finR ?startR
  case startR =>
   intro L hL
   have n : ∀ j, j < 9 → ∀ {p : Prop}, L j = true → p := fun j hj p h => by rw [hL j hj] at h; cases h
   exact ⟨_, _, _, _, _, _, _, _, _, rfl, ⟨n 2 (by omega), n 3 (by omega), n 4 (by omega), n 6 (by omega), n 6 (by omega), n 7 (by omega), n 8 (by omega), n 8 (by omega)⟩, fun _ => rfl, n 0 (by omega), n 1 (by omega), n 2 (by omega), n 3 (by omega), n 4 (by omega), n 5 (by omega), n 6 (by omega), n 7 (by omega), n 8 (by omega)⟩
  case finR =>
   rintro L a w' ⟨v28, v29, v30, v31, v32, v33, v34, v35, v36, rfl, _, _, _, _, _, _, _, _, _, _, h8⟩ hall
   obtain ⟨hz2, hk2⟩ := h8 (hall 8 (by decide))
   exact ⟨keeps_kb HZ.out hk2.from_drew, keepI_kb HI.out hk2.from_drew, HK.out.trans hk2.from_drew (fun _ _ h => h), H2, hz2, HLL.out, fun p => by
    rw [HX.out p, Bool.or_eq_true, HQ.out p]
    constructor
    ·rintro (⟨x, hx, q', e, hf⟩ | hf)
     ·exact ⟨x, by simp [hx], q', e, hf⟩
     ·exact ⟨x1, by simp, q, HXE.out, hf⟩
    ·rintro ⟨x, hx, q', e, hf⟩
     rcases List.mem_append.1 hx with hx | hx
     ·exact .inl ⟨x, hx, q', e, hf⟩
     ·simp at hx
      rw [hx, HXE.out] at e
      rw [show q = q' by omega]
      exact .inr hf⟩
  case stepR =>
   intro j o L a w' ho hL haft hI K' hK
   obtain ⟨v28, v29, v30, v31, v32, v33, v34, v35, v36, rfl, hcl, hw, h0, h1, h2, h3, h4, h5, h6, h7, h8⟩ := hI
   have hj : j < 9 := (Array.getElem?_eq_some_iff.1 ho).1
   have h8n : j < 8 → L 8 = false := fun h => hcl.no8 h hL
   rcases (show j = 0 ∨ j = 1 ∨ j = 2 ∨ j = 3 ∨ j = 4 ∨ j = 5 ∨ j = 6 ∨ j = 7 ∨ j = 8 by omega) with rfl | rfl | rfl | rfl | rfl | rfl | rfl | rfl | rfl
   all_goals (replace ho := Option.some.inj ho; subst ho)
   ·obtain rfl := hw (h8n (by omega))
    skip
    go_simp
    exact hK.out _ _ ⟨_, _, _, _, _, _, _, _, _, rfl, ⟨hcl.a2, hcl.a3, hcl.a4, hcl.a6, hcl.b6, hcl.a7, fun _ => rfl, hcl.b8⟩, fun _ => rfl, fun _ => rfl, h1, h2, h3, h4, h5, h6, h7, fun h => absurd h (by rw [show upd L 0 8 = L 8 from rfl, h8n (by omega)]; decide)⟩
   ·obtain rfl := hw (h8n (by omega))
    skip
    go_simp
    exact hK.out _ _ ⟨_, _, _, _, _, _, _, _, _, rfl, ⟨fun _ => rfl, hcl.a3, hcl.a4, hcl.a6, hcl.b6, hcl.a7, hcl.a8, hcl.b8⟩, fun _ => rfl, h0, fun _ => rfl, h2, h3, h4, h5, h6, h7, fun h => absurd h (by rw [show upd L 1 8 = L 8 from rfl, h8n (by omega)]; decide)⟩
   ·have l1 := haft ⟨1, .data⟩ (by simp) rfl
    obtain rfl := h1 l1
    obtain rfl := hw (h8n (by omega))
    skip
    go_simp
    exact hK.out _ _ ⟨_, _, _, _, _, _, _, _, _, rfl, ⟨fun _ => l1, fun _ => rfl, hcl.a4, hcl.a6, hcl.b6, hcl.a7, hcl.a8, hcl.b8⟩, fun _ => rfl, h0, h1, fun _ => rfl, h3, h4, h5, h6, h7, fun h => absurd h (by rw [show upd L 2 8 = L 8 from rfl, h8n (by omega)]; decide)⟩
   ·have l2 := haft ⟨2, .data⟩ (by simp) rfl
    obtain rfl := h2 l2
    obtain rfl := hw (h8n (by omega))
    skip
    go_simp
    exact hK.out _ _ ⟨_, _, _, _, _, _, _, _, _, rfl, ⟨hcl.a2, fun _ => l2, fun _ => rfl, hcl.a6, hcl.b6, hcl.a7, hcl.a8, hcl.b8⟩, fun _ => rfl, h0, h1, h2, fun _ => rfl, h4, h5, h6, h7, fun h => absurd h (by rw [show upd L 3 8 = L 8 from rfl, h8n (by omega)]; decide)⟩
   ·have l3 := haft ⟨3, .data⟩ (by simp) rfl
    obtain rfl := h3 l3
    obtain rfl := hw (h8n (by omega))
    skip
    go_simp
    exact hK.out _ _ ⟨_, _, _, _, _, _, _, _, _, rfl, ⟨hcl.a2, hcl.a3, fun _ => l3, fun _ => rfl, hcl.b6, hcl.a7, hcl.a8, hcl.b8⟩, fun _ => rfl, h0, h1, h2, h3, fun _ => rfl, h5, h6, h7, fun h => absurd h (by rw [show upd L 4 8 = L 8 from rfl, h8n (by omega)]; decide)⟩
   ·obtain rfl := hw (h8n (by omega))
    skip
    go_simp
    exact hK.out _ _ ⟨_, _, _, _, _, _, _, _, _, rfl, ⟨hcl.a2, hcl.a3, hcl.a4, hcl.a6, fun _ => rfl, hcl.a7, hcl.a8, hcl.b8⟩, fun _ => rfl, h0, h1, h2, h3, h4, fun _ => rfl, h6, h7, fun h => absurd h (by rw [show upd L 5 8 = L 8 from rfl, h8n (by omega)]; decide)⟩
   ·have l4 := haft ⟨4, .data⟩ (by simp) rfl
    have l5 := haft ⟨5, .data⟩ (by simp) rfl
    obtain rfl := h4 l4
    obtain rfl := h5 l5
    obtain rfl := hw (h8n (by omega))
    skip
    go_simp
    exact hK.out _ _ ⟨_, _, _, _, _, _, _, _, _, rfl, ⟨hcl.a2, hcl.a3, hcl.a4, fun _ => l4, fun _ => l5, fun _ => rfl, hcl.a8, hcl.b8⟩, fun _ => rfl, h0, h1, h2, h3, h4, h5, fun _ => rfl, h7, fun h => absurd h (by rw [show upd L 6 8 = L 8 from rfl, h8n (by omega)]; decide)⟩
   ·have l6 := haft ⟨6, .data⟩ (by simp) rfl
    obtain rfl := h6 l6
    obtain rfl := hw (h8n (by omega))
    skip
    go_simp
    exact hK.out _ _ ⟨_, _, _, _, _, _, _, _, _, rfl, ⟨hcl.a2, hcl.a3, hcl.a4, hcl.a6, hcl.b6, fun _ => l6, hcl.a8, fun _ => rfl⟩, fun _ => rfl, h0, h1, h2, h3, h4, h5, h6, fun _ => rfl, fun h => absurd h (by rw [show upd L 7 8 = L 8 from rfl, h8n (by omega)]; decide)⟩
   ·have l0 := haft ⟨0, .data⟩ (by simp) rfl
    have l7 := haft ⟨7, .data⟩ (by simp) rfl
    obtain rfl := h0 l0
    obtain rfl := h7 l7
    obtain rfl := hw hL
    skip
    go_simp
    refine ⟨trivial, ?_⟩
    gi_at_call 87
    refine (CallsIn.inRound l (callsIn_wide.2 HJ.out)).mono ?_
    rintro e W2 ⟨rfl, hz2, hk2⟩
    exact hK.out _ _ ⟨_, _, _, _, _, _, _, _, _, rfl, ⟨hcl.a2, hcl.a3, hcl.a4, hcl.a6, hcl.b6, hcl.a7, fun _ => l0, fun _ => l7⟩, fun h => absurd h (by rw [upd_self]; decide), h0, h1, h2, h3, h4, h5, h6, h7, fun _ => ⟨hz2, hk2⟩⟩
 case done2 =>
  rintro D ys W hD hys ⟨hk, H', hz, hl, hq⟩ hK
  have hgh := HGH.out; have hsz := HSZ.out; have hb1e := HB1E.out; have hb0e := HB0.out
  have hch := (show Boxed W b1 87 (bsV gh nw) from (hk.block b1 (lt_of_heap HX13.out) (by omega)).trans HX13.out).cell
  have hkD : Kb (fun i => i = D) W (W.putObj D (.deferred none)) := Kb.of_grown (row := some D) (grownBy_putObj' W D _) |>.wider (fun i e => by injection e)
  have HZF := zh (hz.keep hkD (fun e => by
   have := lt_of_heap HZ3.out.1
   omega))
  have HBF := zh (show Below w.heap.size w (W.putObj D (.deferred none)) from (HBL3.out.trans (hk.below HBL3.out.size (fun i hi => by omega))).trans (hkD.below (HBL3.out.trans (hk.below HBL3.out.size (fun i hi => by omega))).size (fun i hi => by have := HBL3.out.size; omega)))
  have HGE := zh (show w.heap.size ≤ gh by omega)
  have HL := zh hl
  have HIFF := zh (show ∀ q, bt H' q = true ↔ ∃ p, bt at' p = true ∧ bt (fo p) q = true from fun p => by
   rw [hq p]
   constructor
   ·rintro ⟨x, hx, q, e, hf⟩
    obtain ⟨q', e', hb⟩ := (sbits_get HLA.out HA.out.2 x.1).1 x.2
    rw [show q' = q by omega] at hb
    exact ⟨q, hb, hf⟩
   ·rintro ⟨q, hb, hf⟩
    have h1 : (q : Int) ∈ ys.map (·.1) := by rw [hys]; exact (sbits_get HLA.out HA.out.2 _).2 ⟨q, rfl, hb⟩
    obtain ⟨x, hx, e⟩ := List.mem_map.1 h1
    exact ⟨x, hx, q, e, hf⟩)
  clear hk hz hl hq hys hgh hsz hb1e hb0e hkD
  gi_wp2
  go_wp2
  refine ⟨by simp, .inl ⟨_, _, rfl, run_takeDeferred hK, ?_⟩⟩
  exact ⟨_, results_tmp rfl _ _ _, gh, H', rfl, HZF.out, HL.out, HGE.out, HBF.out, HIFF.out⟩
end Go.Proofs.YtejdfpieblkapaaGreatDoor

/- newMaker's function, and what may stand behind state 0. -/
namespace Go.Proofs.YtejdfpieblkapaaGreatDoor
open Go.RowKit Go.Shelf

set_option maxRecDepth 100000
set_option maxHeartbeats 1000000
theorem has_text (w : World) (ga gp nw b : Nat) (ws : List Nat) (h : w.cell? ⟨ga, b, none⟩ = some (bsV gp nw)) (hw : BsAt w gp ws) (hl : ws.length = nw) (hn : nw ≤ 20000) (hb : b < 256) :
  Calls Tryz.prog 93 #[.int .i64 b, ptr ga] w fun e w' => e = .returned (tx (txt ws)) ∧ Below w.heap.size w w' := by
 have HT := Lib.hid (bs_text w gp nw ws hw hl.symm hn)
 have h1 : (b : Int) < 256 := by omega
 have h0 : (0 : Int) ≤ b := by omega
 clear hw hl
 go_enter Tryz.func93, Tryz.ntmps93
 go_wp2_with fail
 refine HT.out.mono ?_
 rintro e w1 ⟨rfl, hb1⟩
 have HB := Lib.hid hb1
 clear hb1 HT
 go_wp2_with fail
 go_ret
 exact ⟨rfl, HB.out⟩
theorem ahead_zero (w : World) (mk gf nw : Nat) (h : w.cell? ⟨mk, 0, none⟩ = some (bsV gf nw)) :
  Calls Tryz.prog 95 #[ptr mk, .int .i64 (0 : Nat)] w fun e w' => e = .returned (bsV gf nw) ∧ Below w.heap.size w w' := by
 have hb := (Below.refl _ w).alloc (Nat.le_refl _) (.cells #[ptr mk] 104)
 have hc := (Boxed.new w 104 (ptr mk)).cell
 have h' := cell_below hb h
 have HB := Lib.hid hb
 go_enter Tryz.func95, Tryz.ntmps95
 go_upto_region 1 with fail
 generalize w.alloc (.cells #[ptr mk] 104) = w0 at hc h' HB ⊢
 clear hb
 go_wp2
 go_ret
 exact ⟨rfl, HB.out⟩
end Go.Proofs.YtejdfpieblkapaaGreatDoor
