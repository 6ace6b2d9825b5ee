/- The maker in memory: what stays as it is, and the rows. -/
import Derived.Test.YtejdfpieblkapaaGreatDoorH9
import Derived.Test.YtejdfpieblkapaaGreatDoorH13
import Derived.Test.YtejdfpieblkapaaGreatDoorG21
namespace Go.Proofs.YtejdfpieblkapaaGreatDoor
open Go.RowKit Go.Shelf

theorem cell_kb {ex : Nat → Prop} {w w' : World} {p : Addr} {v : Value} (hk : Kb ex w w') (h : w.cell? p = some v) (hne : ¬ ex p.block) : w'.cell? p = some v := (World.cell?_of_block (hk.block _ (cell_lt h) hne)).trans h
theorem MkD.ne {w : World} {mk mp B nw : Nat} {cs : List Value} {v5 : Value} {sts : List (List Nat)} (h : MkD w mk mp B nw cs v5 sts) {g T : Nat} {c : Array Value} {fz : Nat × Nat} (hg : w.heap[g]? = some (.cells c T fz)) (h1 : T ≠ 108) (h2 : T ≠ 87) : ¬ (g = mk ∨ g = mp ∨ v5.ownBlock = some g) := by
 intro e
 rcases e with rfl | rfl | e
 ·have := h.blk; rw [hg] at this; injection this with this; injection this with _ this; exact h1 this
 ·obtain ⟨f, hm, _⟩ := h.map
  obtain ⟨es, clock, hb, _⟩ := hm; rw [hg] at hb; cases hb
 ·obtain ⟨xs, hr, _⟩ := h.row
  obtain ⟨_, cs', hb⟩ := own_ty hr e; rw [hg] at hb; injection hb with hb; injection hb with _ hb; exact h2 hb
theorem MkD.low {w : World} {mk mp B nw : Nat} {cs : List Value} {v5 : Value} {sts : List (List Nat)} (h : MkD w mk mp B nw cs v5 sts) (h1 : B ≤ mk) (h2 : B ≤ mp) : ∀ i, (i = mk ∨ i = mp ∨ v5.ownBlock = some i) → B ≤ i := by
 rintro i (rfl | rfl | e)
 ·exact h1
 ·exact h2
 ·obtain ⟨xs, hr, _⟩ := h.row
  exact (own_ty hr e).1
theorem MkD.off {w w' : World} {mk mp B nw : Nat} {cs : List Value} {v5 : Value} {sts : List (List Nat)} (h : MkD w mk mp B nw cs v5 sts) (hk : Kb (fun i => i = mk ∨ i = mp ∨ v5.ownBlock = some i) w w') {g T : Nat} {c : Array Value} {fz : Nat × Nat} (hg : w.heap[g]? = some (.cells c T fz)) (h1 : T ≠ 108) (h2 : T ≠ 87) : w'.heap[g]? = some (.cells c T fz) :=
 (hk.block g (lt_of_heap hg) (h.ne hg h1 h2)).trans hg
theorem MkD.bs {w w' : World} {mk mp B nw : Nat} {cs : List Value} {v5 : Value} {sts : List (List Nat)} (h : MkD w mk mp B nw cs v5 sts) (hk : Kb (fun i => i = mk ∨ i = mp ∨ v5.ownBlock = some i) w w') {g : Nat} {ws : List Nat} (hg : BsAt w g ws) : BsAt w' g ws := ⟨h.off hk hg.1 (by decide) (by decide), hg.2⟩
structure MkS (w : World) (M : Mk) (S : Nat → Prop) (gf gh cF cH : Nat) (AF : Option Addr) (cs : List Value) : Prop where
 nw : M.nw = (M.N + 63) / 64
 n : M.N ≤ 2000
 kn : M.kn ≤ 256
 c0 : cs[0]? = some (bsV gf M.nw)
 s0 : S gf
 b0 : BsAt w gf M.fi
 l0 : M.fi.length = M.nw
 fiN : ∀ q, bt M.fi q = true → q < M.N
 c1 : cs[1]? = some (.slice AF M.N cF)
 fo : ∀ p < M.N, ∃ fg gp, AF = some ⟨fg, 0, none⟩ ∧ S fg ∧ S gp ∧ w.cell? ⟨fg, p, none⟩ = some (bsV gp M.nw) ∧ BsAt w gp (M.fo p) ∧ (M.fo p).length = M.nw
 foN : ∀ p < M.N, ∀ q, bt (M.fo p) q = true → q < M.N
 c2 : cs[258]? = some (.slice (some ⟨gh, 0, none⟩) M.kn cH)
 hs : ∀ k < M.kn, S gh ∧ ∃ gp, S gp ∧ w.cell? ⟨gh, k, none⟩ = some (bsV gp M.nw) ∧ BsAt w gp (M.hs k) ∧ (M.hs k).length = M.nw
theorem MkS.keep {w w' : World} {M : Mk} {S : Nat → Prop} {gf gh cF cH : Nat} {AF : Option Addr} {cs cs' : List Value} {ex : Nat → Prop} (h : MkS w M S gf gh cF cH AF cs) (hk : Kb ex w w') (hS : ∀ i, S i → ¬ ex i) (hc : ∀ i < 259, cs'[i]? = cs[i]?) : MkS w' M S gf gh cF cH AF cs' where
 nw := h.nw
 n := h.n
 kn := h.kn
 c0 := (hc 0 (by omega)).trans h.c0
 s0 := h.s0
 b0 := h.b0.keep hk (hS _ h.s0)
 l0 := h.l0
 fiN := h.fiN
 c1 := (hc 1 (by omega)).trans h.c1
 fo := fun p hp => by
  obtain ⟨fg, gp, h1, h2, h3, h4, h5, h6⟩ := h.fo p hp
  exact ⟨fg, gp, h1, h2, h3, cell_kb hk h4 (hS _ h2), h5.keep hk (hS _ h3), h6⟩
 foN := h.foN
 c2 := (hc 258 (by omega)).trans h.c2
 hs := fun k hk' => by
  obtain ⟨h1, gp, h2, h3, h4, h5⟩ := h.hs k hk'
  exact ⟨h1, gp, h2, cell_kb hk h3 (hS _ h1), h4.keep hk (hS _ h2), h5⟩
structure RwD (w : World) (top B kn : Nat) (v6 : Value) (rows : List (List (Option Nat))) : Prop where
 row : ∃ xs, w.ownsRow B 32 1 v6 rows.length xs ∧ ∀ (i : Nat) (row : List (Option Nat)), rows[i]? = some row → row.length = kn ∧ ∃ g c, xs[i]? = some (.slice (some ⟨g, 0, none⟩) kn c) ∧ g < top ∧ w.heap[g]? = some (.cells (row.map av).toArray 3 (0, 0))
 own : ∀ g, v6.ownBlock = some g → g < top
theorem RwD.keep {w w' : World} {top B kn : Nat} {v6 : Value} {rows : List (List (Option Nat))} {ex : Nat → Prop} (h : RwD w top B kn v6 rows) (hk : Kb ex w w') (h1 : ∀ (g : Nat) (c : Array Value) (T : Nat), w.heap[g]? = some (.cells c T (0, 0)) → T = 3 ∨ T = 32 → g < top → ¬ ex g) : RwD w' top B kn v6 rows := by
 obtain ⟨xs, h2, h3⟩ := h.row
 refine ⟨⟨xs, own_kb h2 hk (fun g hg => by
  obtain ⟨_, c, hc⟩ := own_ty h2 hg
  exact h1 g c 32 hc (.inr rfl) (h.own g hg)), fun i row hi => ?_⟩, h.own⟩
 obtain ⟨h4, g, c, h5, h6, h7⟩ := h3 i row hi
 exact ⟨h4, g, c, h5, h6, (hk.block g (lt_of_heap h7) (h1 g _ 3 h7 (.inl rfl) h6)).trans h7⟩
theorem RwD.below {w w' : World} {top B kn : Nat} {v6 : Value} {rows : List (List (Option Nat))} (h : RwD w top B kn v6 rows) (hb : Below w.heap.size w w') : RwD w' top B kn v6 rows := h.keep (Kb.of_below (fun _ => False) hb) (fun _ _ _ _ _ _ h => h)
theorem RwD.top {w : World} {top top' B kn : Nat} {v6 : Value} {rows : List (List (Option Nat))} (h : RwD w top B kn v6 rows) (ht : top ≤ top') : RwD w top' B kn v6 rows := by
 obtain ⟨xs, h2, h3⟩ := h.row
 refine ⟨⟨xs, h2, fun i row hi => ?_⟩, fun g hg => Nat.lt_of_lt_of_le (h.own g hg) ht⟩
 obtain ⟨h4, g, c, h5, h6, h7⟩ := h3 i row hi
 exact ⟨h4, g, c, h5, Nat.lt_of_lt_of_le h6 ht, h7⟩
theorem MkD.keep {w w' : World} {mk mp B nw : Nat} {cs : List Value} {v5 : Value} {sts : List (List Nat)} {ex : Nat → Prop} (h : MkD w mk mp B nw cs v5 sts) (hk : Kb ex w w') (hx : ∀ g, ex g → g < w.heap.size → ∃ (c : Array Value) (T : Nat) (fz : Nat × Nat), w.heap[g]? = some (.cells c T fz) ∧ T ≠ 108 ∧ T ≠ 87 ∧ T ≠ 99) : MkD w' mk mp B nw cs v5 sts where
 blk := (hk.block mk (lt_of_heap h.blk) (fun e => by
  obtain ⟨c, T, fz, h1, h2, _⟩ := hx mk e (lt_of_heap h.blk)
  rw [h.blk] at h1; injection h1 with h1; injection h1 with _ h1; exact h2 h1.symm)).trans h.blk
 c4 := h.c4
 c5 := h.c5
 map := by
  obtain ⟨f, h1, h2⟩ := h.map
  refine ⟨f, h1.keep (hk.block mp h1.lt (fun e => ?_)) (fun _ h => h), h2⟩
  obtain ⟨c, T, fz, h3, _⟩ := hx mp e h1.lt
  obtain ⟨es, clock, hb, _⟩ := h1
  rw [hb] at h3; cases h3
 row := by
  obtain ⟨xs, h1, h2⟩ := h.row
  refine ⟨xs, own_kb h1 hk (fun g hg e => ?_), fun i ws hi => ?_⟩
  ·obtain ⟨_, cs', hb⟩ := own_ty h1 hg
   obtain ⟨c, T, fz, h3, _, h4, _⟩ := hx g e (lt_of_heap hb)
   rw [hb] at h3; injection h3 with h3; injection h3 with _ h3; exact h4 h3.symm
  ·obtain ⟨g, h3, h4⟩ := h2 i ws hi
   refine ⟨g, h3, h4.keep hk (fun e => ?_)⟩
   obtain ⟨c, T, fz, h5, _, _, h6⟩ := hx g e (lt_of_heap h4.1)
   rw [h4.1] at h5; injection h5 with h5; injection h5 with _ h5; exact h6 h5.symm
 len := h.len
 lt := h.lt
theorem MkD.put6 {w : World} {mk mp B nw : Nat} {cs : List Value} {v5 : Value} {sts : List (List Nat)} (h : MkD w mk mp B nw cs v5 sts) (v : Value) : MkD (w.setCell ⟨mk, 261, none⟩ v) mk mp B nw (cs.set 261 v) v5 sts where
 blk := mk_put v h.blk
 c4 := by rw [List.getElem?_set_ne (by omega)]; exact h.c4
 c5 := by rw [List.getElem?_set_ne (by omega)]; exact h.c5
 map := by
  obtain ⟨f, h1, h2⟩ := h.map
  refine ⟨f, h1.keep ((Kb.setCell w ⟨mk, 261, none⟩ v).block mp h1.lt (fun e => ?_)) (fun _ h => h), h2⟩
  obtain ⟨es, clock, hb, _⟩ := h1
  have e : mp = mk := e
  have := h.blk
  rw [← e, hb] at this
  cases this
 row := by
  obtain ⟨xs, h1, h2⟩ := h.row
  have hk := Kb.setCell w ⟨mk, 261, none⟩ v
  refine ⟨xs, own_kb h1 hk (fun g hg e => ?_), fun i ws hi => ?_⟩
  ·obtain ⟨_, cs', hb⟩ := own_ty h1 hg
   have e : g = mk := e
   rw [e, h.blk] at hb; injection hb with hb; injection hb with _ hb; cases hb
  ·obtain ⟨g, h3, h4⟩ := h2 i ws hi
   refine ⟨g, h3, h4.keep hk (fun e => ?_)⟩
   have e : g = mk := e
   have hb := h4.1
   rw [e, h.blk] at hb; injection hb with hb; injection hb with _ hb; cases hb
 len := h.len
 lt := h.lt
theorem TabH.belowB {w w' : World} {B : Nat} (h : TabH w) (hb : Below B w w') (h0 : 0 < B) : TabH w' :=
 h.keep (I := fun k => k = 0) (fun k _ _ _ hi hk => (hb.block k (by rw [show k = 0 from hi]; exact h0)).trans hk) rfl
def rowV (kn : Nat) (row : List (Option Nat)) : List Value := row.map av ++ List.replicate (kn - row.length) (pv 0)
theorem rowV_len (kn : Nat) (row : List (Option Nat)) (h : row.length ≤ kn) : (rowV kn row).length = kn := by
 unfold rowV
 rw [List.length_append, List.length_map, List.length_replicate]; omega
theorem rowV_set (kn : Nat) (row : List (Option Nat)) (h : row.length < kn) (o : Option Nat) : (rowV kn row).set row.length (av o) = rowV kn (row ++ [o]) := by
 unfold rowV
 rw [show kn - row.length = (kn - (row ++ [o]).length) + 1 by rw [List.length_append, List.length_singleton]; omega, List.replicate_succ, List.set_append_right _ _ (by simp)]
 simp
theorem rowV_all (row : List (Option Nat)) : rowV row.length row = row.map av := by simp [rowV]
theorem MkS.ahl {w : World} {M : Mk} {S : Nat → Prop} {gf gh cF cH : Nat} {AF : Option Addr} {cs : List Value} (h : MkS w M S gf gh cF cH AF cs) (sts : List (List Nat)) (i : Nat) : (M.ah sts i).length = M.nw ∧ ∀ q, bt (M.ah sts i) q = true → q < M.N := by
 unfold Mk.ah
 by_cases h0 : i = 0
 ·rw [if_pos h0]; exact ⟨h.l0, h.fiN⟩
 ·rw [if_neg h0]
  refine ⟨by rw [wds_len, h.nw], fun q hq => ?_⟩
  rw [bt_wds] at hq
  simp at hq
  exact hq.1
theorem MkS.stN {w : World} {M : Mk} {S : Nat → Prop} {gf gh cF cH : Nat} {AF : Option Addr} {cs : List Value} (h : MkS w M S gf gh cF cH AF cs) (n : Nat) : ∀ s ∈ (mst M n).1, ∀ q, bt s q = true → q < M.N := by
 refine mst_all M (fun s => ∀ q, bt s q = true → q < M.N) n (fun i _ k hk _ q hq => ?_)
 obtain ⟨_, gp, _, _, _, hl⟩ := h.hs k hk
 rw [bt_mt2 _ _ (by rw [(h.ahl _ i).1, hl]), Bool.and_eq_true] at hq
 exact (h.ahl _ i).2 q hq.1
theorem ahead_mk (w : World) (M : Mk) (S : Nat → Prop) (mk mp B gf gh cF cH n : Nat) (AF : Option Addr) (cs : List Value) (v5 : Value) (sts : List (List Nat)) (hs : MkS w M S gf gh cF cH AF cs) (hd : MkD w mk mp B M.nw cs v5 sts) (hn : n < sts.length + 1) (hN : ∀ s ∈ sts, ∀ q, bt s q = true → q < M.N) (hT : TabH w) :
  Calls Tryz.prog 95 #[ptr mk, .int .i64 n] w fun e w' => ∃ g, e = .returned (bsV g M.nw) ∧ BsAt w' g (M.ah sts n) ∧ (M.ah sts n).length = M.nw ∧ Below w.heap.size w w' := by
 by_cases h0 : n = 0
 ·subst h0
  have e : M.ah sts 0 = M.fi := if_pos rfl
  rw [e]
  refine (ahead_zero w mk gf M.nw (by rw [Lib.cell_of_heap hd.blk]; simpa using hs.c0)).mono ?_
  rintro e' w' ⟨rfl, hb⟩
  exact ⟨gf, rfl, hs.b0.below hb, hs.l0, hb⟩
 ·obtain ⟨xs, hr, hx⟩ := hd.row
  obtain ⟨A5, c5, hv, _, _⟩ := own_form hr
  subst hv
  obtain ⟨g5, rfl, hcl, _, _⟩ := own_cells hr (by omega)
  obtain ⟨s, hsn⟩ : ∃ s, sts[n - 1]? = some s := ⟨_, List.getElem?_eq_getElem (show n - 1 < sts.length by omega)⟩
  obtain ⟨ga, hxa, hba⟩ := hx n s (by
   obtain ⟨k, rfl⟩ : ∃ k, n = k + 1 := ⟨n - 1, by omega⟩
   simpa using hsn)
  have hsm := List.mem_of_getElem? hsn
  have e6 : w.cell? ⟨g5, n, none⟩ = some (bsV ga M.nw) := hcl n _ hxa
  refine (ahead_any w mk n M.N (sts.length + 1) c5 cF g5 ga M.nw AF M.fo s (by omega) hn (by rw [Lib.cell_of_heap hd.blk]; simpa using hs.c1) (by rw [Lib.cell_of_heap hd.blk]; simpa using hd.c5) e6 (fun p hp => by
   obtain ⟨fg, gp, k1, _, _, k2, k3, k4⟩ := hs.fo p hp
   exact ⟨fg, gp, k1, k2, k3, k4⟩) hba (hd.len s hsm) (hN s hsm) hs.nw hs.n hT).mono ?_
  rintro e' w' ⟨g, us, rfl, k1, k2, _, k3, k4⟩
  have e : us = M.ah sts n := by
   have e1 : M.ah sts n = wds M.N fun q => (List.range M.N).any fun p => bt s p && bt (M.fo p) q := by
    unfold Mk.ah
    rw [if_neg h0, List.getD_eq_getElem?_getD, hsn]; rfl
   rw [e1]
   refine wds_of (by rw [k2, hs.nw]) k1.2 (fun q => ?_)
   rw [k4 q]
   simp only [List.any_eq_true, List.mem_range, Bool.and_eq_true]
   constructor
   ·rintro ⟨p, h3, h4⟩
    have hp := hN s hsm p h3
    exact ⟨hs.foN p hp q h4, p, hp, h3, h4⟩
   ·rintro ⟨_, p, _, h3, h4⟩
    exact ⟨p, h3, h4⟩
  rw [e] at k1 k2
  exact ⟨g, rfl, k1, k2, k3⟩
end Go.Proofs.YtejdfpieblkapaaGreatDoor

/- meet. -/
namespace Go.Proofs.YtejdfpieblkapaaGreatDoor
open Lib renaming hid → zh
open Go.RowKit Go.Shelf

set_option maxRecDepth 100000 in
set_option maxHeartbeats 8000000 in
theorem meet_any (w : World) (M : Mk) (S : Nat → Prop) (mk mp B gf gh cF cH : Nat) (AF : Option Addr) (cs : List Value) (v5 : Value)
  (hs : MkS w M S gf gh cF cH AF cs) (hd : MkD w mk mp B M.nw cs v5 []) (h6 : cs[261]? = some (.slice none 0 0)) (hB : B ≤ w.heap.size) (hB0 : 0 < B) (hSl : ∀ i, S i → i < w.heap.size)
  (hS1 : ¬ S mk) (hS2 : ¬ S mp) (hS5 : ∀ g, v5.ownBlock = some g → ¬ S g) (hBm : B ≤ mk) (hBp : B ≤ mp) (hT : TabH w) :
  Calls Tryz.prog 64 #[ptr mk] w fun e w' => Below B w w' ∧ ((∃ (n : Nat) (cs' : List Value) (v5' v6' : Value) (top : Nat), e = .returned (.bool true) ∧ Met M n ∧ n ≤ 2000 ∧ MkS w' M S gf gh cF cH AF cs' ∧ MkD w' mk mp B M.nw cs' v5' (mst M n).1 ∧ cs'[261]? = some v6' ∧ RwD w' top w.heap.size M.kn v6' (mst M n).2 ∧ (∀ i < 259, cs'[i]? = cs[i]?)) ∨ (e = .returned (.bool false) ∧ ∃ n, 2000 < (mst M n).1.length + 1)) := by
 obtain ⟨i0, hi0, hz0, hz1, hz2⟩ := info_parts Tryz.info3
 have HI := zh hi0; have HZ0 := zh hz0; have HZ1 := zh hz1; have HZ2 := zh hz2
 obtain ⟨j0, hj0, hy0, hy1, hy2⟩ := info_parts Tryz.info32
 have HJ := zh hj0; have HY0 := zh hy0; have HY1 := zh hy1; have HY2 := zh hy2
 have HS0 := zh hs; have HD0 := zh hd; have H60 := zh h6; have HSL := zh hSl; have HS1 := zh hS1; have HS2 := zh hS2; have HS5 := zh hS5; have HT := zh hT
 have hkn := hs.kn
 obtain ⟨kn, hkne⟩ : ∃ kn, kn = M.kn := ⟨_, rfl⟩
 have HKN := zh hkne
 rw [← hkne] at hkn
 obtain ⟨H0, hH0⟩ : ∃ H0, H0 = w.heap.size := ⟨_, rfl⟩
 have HH0 := zh hH0
 rw [← hH0] at hB ⊢
 have HRW0 : Hid (RwD w H0 H0 M.kn (.slice none 0 0) (mst M 0).2) := zh ⟨⟨_, World.ownsRow_nil _ _ _ _, fun i row hi => by cases hi⟩, fun g hg => by cases hg⟩
 clear hi0 hz0 hz1 hz2 hj0 hy0 hy1 hy2 hs hd h6 hSl hS1 hS2 hS5 hT hkne hH0
 go_enter Tryz.func64, Tryz.ntmps64
 go_wp2_with fail
 go_loopw [3] (fun i wr => ∃ (n : Nat) (cs' : List Value) (v5' v6' : Value), n ≤ (mst M n).1.length + 1 ∧ (mst M n).1.length + 1 ≤ 2000 ∧ i = .int .i64 n ∧ Hid (∀ j < n, j ≤ (mst M j).1.length) ∧ Hid (MkS wr M S gf gh cF cH AF cs') ∧ Hid (MkD wr mk mp B M.nw cs' v5' (mst M n).1) ∧ Hid (cs'[261]? = some v6') ∧ Hid (RwD wr wr.heap.size H0 M.kn v6' (mst M n).2) ∧ Hid (∀ g, v5'.ownBlock = some g → ¬ S g) ∧ Hid (Below B w wr) ∧ Hid (∀ i < 259, cs'[i]? = cs[i]?)) (fun i _ => 3000 - (intOf i).toNat)
 case atStart => exact ⟨0, cs, v5, _, Nat.zero_le _, (by show 0 + 1 ≤ 2000; omega), rfl, zh (fun j h => by omega), HS0, HD0, H60, zh (HRW0.out.top (Nat.le_of_eq HH0.out)), HS5, zh (Below.refl _ _), zh (fun _ _ => rfl)⟩
 case round =>
  clear HS0 HD0 H60 HS5 HRW0
  obtain ⟨n, cs', v5', v6', hn, hn2, rfl, HR, HS, HD, H6, HW, HV5, HB, HC⟩ := hrel
  obtain ⟨s, hse⟩ : ∃ s, s = (mst M n).1 := ⟨_, rfl⟩
  rw [← hse] at hn hn2 HD
  have HSE := zh hse
  clear hse
  obtain ⟨xs, hr, _⟩ := HD.out.row
  obtain ⟨A5, c5, hv5, _, _⟩ := own_form hr
  clear hr
  subst hv5
  obtain ⟨d5, f5⟩ := mk_cell HD.out.blk HD.out.c5
  obtain ⟨ns, hns⟩ : ∃ ns, ns = s.length + 1 := ⟨_, rfl⟩
  rw [← hns] at d5 HD HV5 hn hn2
  have HNS := zh hns
  have hst := HB.out.size
  have hBr : B ≤ wr.heap.size := by have := HH0.out; omega
  have HTr := zh (HT.out.belowB HB.out hB0)
  by_cases hlt : n < ns
  ·have hlti : (n : Int) < ns := by omega
   have hn0 : (0 : Int) ≤ n := by omega
   have HAH := zh (ahead_mk wr M S mk mp B gf gh cF cH n AF cs' _ s HS.out HD.out (by rw [← hns]; exact hlt) (by rw [HSE.out]; exact HS.out.stN n) HTr.out)
   clear hns
   go_wp2_with fail
   refine HAH.out.mono ?_
   rintro e w1 ⟨ga, rfl, h1, h2, h3⟩
   obtain ⟨ah, hah⟩ : ∃ ah, ah = M.ah s n := ⟨_, rfl⟩
   rw [← hah] at h1 h2
   have HAE := zh hah
   have hk1 := Kb.of_below (fun _ => False) h3
   have HS1w := HS.out.keep hk1 (fun _ _ h => h) (fun _ _ => rfl)
   have HD1 := HD.out.below h3
   have HW1 := HW.out.below h3
   have HB1 := HB.out.trans (h3.mono hBr)
   obtain ⟨c2, f2⟩ := mk_cell HD1.blk HS1w.c2
   rw [← HKN.out] at c2
   have h3s := h3.size
   clear HAH HS HD HW HB hah hk1 h3 d5 f5 HTr
   have HGA := zh h1; have HGL := zh h2; have HSx := zh HS1w; have HDx := zh HD1; have HWx := zh HW1; have HBx := zh HB1
   clear h1 h2 HS1w HD1 HW1 HB1
   go_upto_region 6 with (at_make; refine wpList_make_row _ rfl _ _ 32 rfl 3 i0 (.int .i64 0) Tryz.underlying32 HI.out HZ0.out HZ1.out rfl .i64 .i64 kn rfl rfl (by rw [HZ2.out]; omega) (by omega) ?_)
   obtain ⟨g9, hg9⟩ : ∃ g9, g9 = w1.heap.size := ⟨_, rfl⟩
   have hal := (Below.refl _ w1).alloc (Nat.le_refl _) (.cells (madeCells #[.int .i64 0] kn) 3)
   have hrw := heap_alloc_new w1 (.cells (madeCells #[.int .i64 0] kn) 3)
   rw [show madeCells #[.int .i64 0] kn = (rowV kn []).toArray by
    apply Array.toList_inj.1
    rw [toList_madeCells_one]; simp [rowV]] at hal hrw ⊢
   rw [← hg9] at hrw ⊢
   generalize w1.alloc (.cells (rowV kn []).toArray 3) = w2 at hal hrw ⊢
   have hkal := Kb.of_below (fun _ => False) hal
   have HG9 := zh hg9
   have HSy := zh (HSx.out.keep hkal (fun _ _ h => h) (fun _ _ => rfl))
   have HDy := zh (HDx.out.below hal)
   have HWy : Hid (RwD w2 g9 H0 M.kn v6' (mst M n).2) := zh ((HWx.out.below hal).top (by rw [hg9]; exact h3s))
   have HBy := zh (HBx.out.trans (hal.mono (by omega)))
   have HGy := zh (HGA.out.below hal)
   have HRW := zh hrw
   have HSG : Hid (∀ i, S i → i < g9) := zh (fun i hi => by have := HSL.out i hi; have := HBx.out.size; omega)
   have hg9b : B ≤ g9 := by rw [hg9]; have := HBx.out.size; have := HH0.out; omega
   have hg9m : mk < g9 := by rw [hg9]; exact lt_of_heap HDx.out.blk
   clear HSx HDx HWx HBx HGA hal hrw hkal hg9 c2 f2 h3s
   have e2 : w2.cell? ⟨mk, 258, none⟩ = some (.slice (some ⟨gh, 0, none⟩) kn cH) := by
    rw [HKN.out]; exact (mk_cell HDy.out.blk HSy.out.c2).1
   go_wp2_with fail
   go_loopw [31] (fun i wq => ∃ (k : Nat) (cs2 : List Value) (v52 : Value), k ≤ kn ∧ i = .int .i64 k ∧ Hid (MkS wq M S gf gh cF cH AF cs2) ∧ Hid (MkD wq mk mp B M.nw cs2 v52 (rowK M ah k s).2) ∧ Hid (cs2[261]? = some v6') ∧ Hid (RwD wq g9 H0 M.kn v6' (mst M n).2) ∧ Hid (∀ g, v52.ownBlock = some g → ¬ S g) ∧ Hid (BsAt wq ga ah) ∧ Hid (wq.heap[g9]? = some (.cells (rowV kn (rowK M ah k s).1).toArray 3 (0, 0))) ∧ Hid (Below B w wq) ∧ Hid (∀ i < 259, cs2[i]? = cs[i]?)) (fun i _ => kn - (intOf i).toNat)
   case atStart => exact ⟨0, cs', _, Nat.zero_le _, rfl, HSy, HDy, H6, HWy, HV5, HGy, HRW, HBy, HC⟩
   case round =>
    clear HSy HDy H6 HWy HV5 HGy HRW HBy HC e2
    obtain ⟨k, cs2, v52, hk, rfl, HS, HD, H6, HW, HV5, HGA, HRW, HB, HC⟩ := hrel
    have hst2 := HB.out.size
    have hBr2 : B ≤ wr.heap.size := by have := HH0.out; omega
    by_cases hlk : k < kn
    ·have hki : (k : Int) < kn := by omega
     have hk0 : (0 : Int) ≤ k := by omega
     obtain ⟨_, gp, hgS, hgc, hgb, hgl⟩ := HS.out.hs k (by rw [← HKN.out]; exact hlk)
     have HMT := zh (bs_meet wr ga gp M.nw ah (M.hs k) HGA.out hgb HGL.out.symm (by rw [HGL.out, hgl]) (by have := HS.out.nw; have := HS.out.n; omega))
     have HML := zh (show (mt2 ah (M.hs k)).length = M.nw by rw [mt2_len _ _ (by rw [HGL.out, hgl]), HGL.out])
     clear hgb hgl
     go_wp2_with (first | (go_at_call 97; refine HMT.out.mono ?_; rintro e w3 ⟨rfl, m1, m2⟩; have M1 := zh m1; have M2 := zh m2; clear m1 m2))
     have hk3 := Kb.of_below (fun _ => False) M2.out
     have h3s := M2.out.size
     have HS3 := zh (HS.out.keep hk3 (fun _ _ h => h) (fun _ _ => rfl))
     have HD3 := zh (HD.out.below M2.out)
     have HW3 := zh (HW.out.below M2.out)
     have HG3 := zh (HGA.out.below M2.out)
     have HR3 := zh ((M2.out.block g9 (lt_of_heap HRW.out)).trans HRW.out)
     have HB3 := zh (HB.out.trans (M2.out.mono hBr2))
     have HLE := zh (show (rowK M ah k s).2.length ≤ 100000 by have := rowK_le M ah s k; have := HNS.out; omega)
     have HNU := zh (number_md w3 mk mp B wr.heap.size M.nw cs2 v52 _ (mt2 ah (M.hs k)) HD3.out (by have := HH0.out; omega) HLE.out M1.out HML.out (by have := HS3.out.nw; have := HS3.out.n; omega))
     clear HS HD HW HGA HRW HB hk3 HMT
     refine HNU.out.mono ?_
     rintro e w4 ⟨he, v53, n1, n2, n3⟩
     have hr4 := HD3.out.off n2 HR3.out (by decide) (by decide)
     have hrl : (rowK M ah k s).1.length = k := rowK_len M ah s k
     have hnx : (rowK M ah (k + 1) s).1 = (rowK M ah k s).1 ++ [(num (rowK M ah k s).2 (mt2 ah (M.hs k))).1] := rfl
     have hny : (num (rowK M ah k s).2 (mt2 ah (M.hs k))).2 = (rowK M ah (k + 1) s).2 := rfl
     rw [hny] at n1
     have h4s := n2.size
     generalize (num (rowK M ah k s).2 (mt2 ah (M.hs k))).1 = o at he hnx
     have hset : (w4.setCell ⟨g9, k, none⟩ (av o)).heap[g9]? = some (.cells (rowV kn (rowK M ah (k + 1) s).1).toArray 3 (0, 0)) := by
      have e1 := rowV_set kn (rowK M ah k s).1 (by rw [hrl]; exact hlk) o
      rw [hrl, ← hnx] at e1
      rw [set_heap w4 g9 k _ _ _ _ hr4, ← e1]; simp
     have hkc := Kb.setCell w4 ⟨g9, k, none⟩ (av o)
     have HS5 := zh ((HS3.out.keep (cs' := cs2.set 260 v53) n2 (fun i hi e => by
      rcases e with rfl | rfl | e
      ·exact HS1.out hi
      ·exact HS2.out hi
      ·exact HV5.out i e hi) (fun i hi => List.getElem?_set_ne (by omega))).keep (cs' := cs2.set 260 v53) hkc (fun i hi e => by
      have := HSG.out i hi
      have e : i = g9 := e
      omega) (fun _ _ => rfl))
     have HD5 := zh (n1.keep hkc (fun g e _ => by
      have e : g = g9 := e
      exact ⟨(rowV kn (rowK M ah k s).1).toArray, 3, (0, 0), by rw [e]; exact hr4, by decide, by decide, by decide⟩))
     have HW5 := zh ((HW3.out.keep n2 (fun g c T hg hT _ => HD3.out.ne hg (by rcases hT with rfl | rfl <;> decide) (by rcases hT with rfl | rfl <;> decide))).keep hkc (fun g _ _ _ _ hl e => by
      have e : g = g9 := e
      omega))
     have HG5 := zh ((HD3.out.bs n2 HG3.out).keep hkc (fun e => by
      have e : ga = g9 := e
      have h1 := (HD3.out.bs n2 HG3.out).1
      rw [e, hr4] at h1
      injection h1 with h1; injection h1 with _ h1; cases h1))
     have HV53 : Hid (∀ g, v53.ownBlock = some g → ¬ S g) := zh (fun g hg hS => by
      rcases n3 g hg with h | h
      ·exact HV5.out g h hS
      ·have := HSL.out g hS; have := HH0.out; omega)
     have HB5 := zh (HB3.out.trans ((n2.below (by omega) (HD3.out.low hBm hBp)).trans (hkc.below (by omega) (fun i e => by rw [show i = g9 from e]; exact hg9b))))
     have H65 : Hid ((cs2.set 260 v53)[261]? = some v6') := zh ((List.getElem?_set_ne (by omega)).trans H6.out)
     have HC5 : Hid (∀ i < 259, (cs2.set 260 v53)[i]? = cs[i]?) := zh (fun i hi => (List.getElem?_set_ne (by omega)).trans (HC.out i hi))
     have HSET := zh hset
     have c9 : w4.cell? ⟨g9, k, none⟩ = some ((rowV kn (rowK M ah k s).1)[k]'(by rw [rowV_len _ _ (by omega)]; exact hlk)) := by
      rw [Lib.cell_of_heap hr4]
      simp [rowV_len kn (rowK M ah k s).1 (by omega), hlk]
     have f9 := Lib.frozen_of_heap hr4 k
     generalize (rowV kn (rowK M ah k s).1)[k]'(by rw [rowV_len _ _ (by omega)]; exact hlk) = v9 at c9
     clear n1 n2 n3 hr4 hset hkc HNU HS3 HD3 HW3 HG3 HR3 HB3 HLE M1 M2 HML hny hnx
     obtain ⟨z, hvo⟩ : ∃ z : Int, av o = .int .i64 z := by cases o <;> exact ⟨_, rfl⟩
     rw [hvo] at he HS5 HD5 HW5 HG5 HB5 HSET
     subst he
     clear hvo
     go_wp2_with fail
     go_roundw
     case rel => exact ⟨k + 1, _, v53, by omega, by go_num, HS5, HD5, H65, HW5, HV53, HG5, HSET, HB5, HC5⟩
     case measure => simp [intOf]; omega
    ·obtain rfl : k = kn := by omega
     have hrl : (rowK M ah k s).1.length = k := rowK_len M ah s k
     obtain ⟨row, hrow⟩ : ∃ row, row = (rowK M ah k s).1 := ⟨_, rfl⟩
     have hm1 : (mst M (n + 1)).1 = (rowK M ah k s).2 := by
      show (rowK M (M.ah (mst M n).1 n) M.kn (mst M n).1).2 = _
      rw [← HSE.out, ← HAE.out, ← HKN.out]
     have hm2 : (mst M (n + 1)).2 = (mst M n).2 ++ [row] := by
      show (mst M n).2 ++ [(rowK M (M.ah (mst M n).1 n) M.kn (mst M n).1).1] = _
      rw [← HSE.out, ← HAE.out, ← HKN.out, ← hrow]
     have hr9 := HRW.out
     rw [← hrow] at hrl hr9
     rw [← hrl, rowV_all] at hr9
     rw [← hm1] at HD
     have HM2 := zh hm2; have HR9 := zh hr9; have HRL := zh hrl
     obtain ⟨xs6, ho6, hx6⟩ := HW.out.row
     rw [mst_rows] at ho6
     have hl6 : xs6.length = n := by have := ho6.1; simpa using this
     obtain ⟨A6, c6, hv6, hc61, hc62⟩ := own_form ho6
     subst hv6
     obtain ⟨x5, hr5, _⟩ := HD.out.row
     obtain ⟨A52, c52, hv52, _, _⟩ := own_form hr5
     subst hv52
     obtain ⟨d6, g6⟩ := mk_cell HD.out.blk H6.out
     obtain ⟨n2, hn2e⟩ : ∃ n2, n2 = (mst M (n + 1)).1.length + 1 := ⟨_, rfl⟩
     rw [← hn2e] at HD HV5 hr5
     have HN2 := zh hn2e
     have hn2b : n2 ≤ 100000 := by
      have := rowK_le M ah s k; have := HNS.out
      rw [hn2e, hm1]; omega
     have hH0r : H0 ≤ wr.heap.size := by have := HH0.out; omega
     have HO6 := zh ho6; have HX6 := zh hx6; have HL6 := zh hl6
     clear hr5 ho6 hx6 hl6 hm1 hm2 hr9 hrl hn2e hrow HGA HRW
     go_upto_region 12 with (at_builtin; go_loud (refine wpList_append_lies _ rfl _ _ 77 rfl H0 32 j0 _ 1 24 Tryz.underlying77 HJ.out HY0.out HY1.out HY2.out rfl (by omega) (.slice A6 n c6) n xs6 rfl (HO6.out.alloc _) ⟨wr.heap.size, 0, none⟩ 1 1 [.slice (some ⟨g9, 0, none⟩) k k] rfl rfl (World.news_of_block (cs := #[.slice (some ⟨g9, 0, none⟩) k k]) (t := 32) (fr := (0, 0)) (heap_alloc_new wr _)) (by simp [Value.oneCell']) (by omega) (by unfold maxLen; omega) (by omega) (by simp; omega) (wr.heap.size + 1) (by simp) ?_; intro gg cap6 w6 hown6 hgrow6 hat6 hlt6; have hg6 := grown_kb hgrow6; have HMK6 := zh ((hg6.block mk (lt_of_heap HD.out.blk) (fun e => by obtain ⟨_, cs', h⟩ := own_ty HO6.out e.symm; rw [HD.out.blk] at h; injection h with h; injection h with _ h; cases h)).trans HD.out.blk); have HG6 := zh hg6; have HOW6 := zh hown6; obtain ⟨d7, g7⟩ := mk_cell HMK6.out H6.out; clear hg6 hown6 hgrow6 hat6 hlt6 d6 g6))
     obtain ⟨v6n, hv6n⟩ : ∃ v6n, v6n = Value.slice (some ⟨gg, 0, none⟩) (n + 1) cap6 := ⟨_, rfl⟩
     rw [← hv6n] at HOW6 ⊢
     have hg6 := HG6.out
     have hcl := Kb.setCell w6 ⟨mk, 261, none⟩ v6n
     have hsw6 := hg6.size
     have hown7 : (w6.setCell ⟨mk, 261, none⟩ v6n).ownsRow H0 32 1 v6n (n + 1) (xs6 ++ [.slice (some ⟨g9, 0, none⟩) k k]) := own_kb HOW6.out hcl (fun g hg e => by
      obtain ⟨_, c, h⟩ := own_ty HOW6.out hg
      rw [show g = mk from e, HMK6.out] at h
      injection h with h; injection h with _ h; cases h)
     have hty3 : ∀ (g : Nat) (c : Array Value), wr.heap[g]? = some (.cells c 3 (0, 0)) → (w6.setCell ⟨mk, 261, none⟩ v6n).heap[g]? = some (.cells c 3 (0, 0)) := fun g c hg => by
      have h6 := (hg6.block g (lt_of_heap hg) (fun e => by
       obtain ⟨_, c', h⟩ := own_ty HO6.out e.symm
       rw [hg] at h
       injection h with h; injection h with _ h; cases h)).trans hg
      exact (hcl.block g (lt_of_heap h6) (fun e => by
       rw [show g = mk from e, HMK6.out] at h6
       injection h6 with h6; injection h6 with _ h6; cases h6)).trans h6
     have HD7 := zh ((HD.out.keep hg6 (fun g e _ => by
      obtain ⟨_, c, h⟩ := own_ty HO6.out e.symm
      exact ⟨c, 32, _, h, by decide, by decide, by decide⟩)).put6 v6n)
     have HS7 := zh ((HS.out.keep (cs' := cs2.set 261 v6n) hg6 (fun i hi e => by
      have := (own_ty HO6.out e.symm).1
      have := HSL.out i hi
      have := HH0.out
      omega) (fun i hi => List.getElem?_set_ne (by omega))).keep (cs' := cs2.set 261 v6n) hcl (fun i hi e => HS1.out (by rw [← show i = mk from e]; exact hi)) (fun _ _ => rfl))
     have HW7 : Hid (RwD (w6.setCell ⟨mk, 261, none⟩ v6n) (w6.setCell ⟨mk, 261, none⟩ v6n).heap.size H0 M.kn v6n (mst M (n + 1)).2) := zh (by
      rw [HM2.out]
      refine ⟨⟨_, (by rw [List.length_append, List.length_singleton, mst_rows]; exact hown7), fun i row' hi => ?_⟩, fun g hg => lt_of_heap (own_ty hown7 hg).2.choose_spec⟩
      rcases Nat.lt_or_ge i n with hin | hin
      ·rw [List.getElem?_append_left (by rw [mst_rows]; exact hin)] at hi
       obtain ⟨h1, g, c, h2, _, h3⟩ := HX6.out i row' hi
       refine ⟨h1, g, c, by rw [List.getElem?_append_left (by rw [HL6.out]; exact hin)]; exact h2, ?_, hty3 g _ h3⟩
       exact lt_of_heap (hty3 g _ h3)
      ·have hlt2 := (List.getElem?_eq_some_iff.1 hi).1
       rw [List.length_append, List.length_singleton, mst_rows] at hlt2
       obtain rfl : i = n := by omega
       rw [List.getElem?_append_right (by rw [mst_rows]; exact Nat.le_refl _), mst_rows, Nat.sub_self] at hi
       simp at hi
       subst hi
       refine ⟨by rw [HRL.out, HKN.out], g9, k, by rw [List.getElem?_append_right (by rw [HL6.out]; exact Nat.le_refl _), HL6.out, Nat.sub_self, ← HKN.out]; rfl, lt_of_heap (hty3 g9 _ HR9.out), hty3 g9 _ HR9.out⟩)
     have HB7 := zh (HB.out.trans ((hg6.below hBr2 (fun i e => by have := (own_ty HO6.out e.symm).1; omega)).trans (hcl.below (by omega) (fun i e => by rw [show i = mk from e]; exact hBm))))
     have H67 : Hid ((cs2.set 261 v6n)[261]? = some v6n) := zh (List.getElem?_set_self (List.getElem?_eq_some_iff.1 H6.out).1)
     have HC7 : Hid (∀ i < 259, (cs2.set 261 v6n)[i]? = cs[i]?) := zh (fun i hi => (List.getElem?_set_ne (by omega)).trans (HC.out i hi))
     clear hown7 hty3 hcl hg6 HD HS HW HB H6 HC HOW6 HG6 HMK6 d7 g7 HO6 HX6 HR9
     generalize w6.setCell ⟨mk, 261, none⟩ v6n = w7 at *
     obtain ⟨d5, f5⟩ := mk_cell HD7.out.blk HD7.out.c5
     by_cases hbig : 2000 < n2
     ·have hbi : (2000 : Int) < n2 := by omega
      have HBG := zh hbig
      clear hbig
      go_wp2_with fail
      go_ret
      exact ⟨HB7.out, .inr ⟨rfl, n + 1, by rw [← HN2.out]; exact HBG.out⟩⟩
     ·have hbi : ¬ (2000 : Int) < n2 := by omega
      have hpl := pre_len (mst_step M n)
      rw [← HSE.out] at hpl
      have hnn : n + 1 ≤ n2 := by have := HN2.out; have := HNS.out; omega
      have hn3 : n2 ≤ 2000 := by omega
      have HRn : Hid (∀ j < n + 1, j ≤ (mst M j).1.length) := zh (fun j hj => by
       rcases Nat.lt_or_ge j n with h | h
       ·exact HR.out j h
       ·obtain rfl : j = n := by omega
        rw [← HSE.out]
        have := HNS.out
        omega)
      rw [HN2.out] at hnn hn3
      clear hbig hpl
      go_wp2_with fail
      refine ⟨⟨n + 1, _, _, v6n, hnn, hn3, by go_num, HRn, HS7, HD7, H67, HW7, HV5, HB7, HC7⟩, ?_⟩
      simp [intOf]; omega
  ·obtain rfl : n = ns := by omega
   rw [HSE.out] at HD HNS
   clear hns
   go_wp2_with fail
   go_ret
   exact ⟨HB.out, .inl ⟨n, cs', _, v6', _, rfl, ⟨HR.out, HNS.out.symm⟩, hn2, HS.out, HD.out, H6.out, HW.out, HC.out⟩⟩
end Go.Proofs.YtejdfpieblkapaaGreatDoor
