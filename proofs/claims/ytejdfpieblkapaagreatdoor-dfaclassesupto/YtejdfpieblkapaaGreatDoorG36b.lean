/- reach: what stands where between its steps; more of its mathematics. -/
import Derived.Test.YtejdfpieblkapaaGreatDoorG35
import Derived.Laws.IdiomStrings
namespace Go.Proofs.YtejdfpieblkapaaGreatDoor
open Go.RowKit Go.Shelf

structure RcF (w wr : World) (m : Value) (b2 ba bh ga gh nw : Nat) (A H : List Nat) : Prop where
 bl : Below w.heap.size w wr
 bm : wr.heap[b2]? = some (.cells #[m] 28 (0, 0))
 xa : wr.heap[ba]? = some (.cells #[bsV ga nw] 87 (0, 0))
 xh : wr.heap[bh]? = some (.cells #[bsV gh nw] 87 (0, 0))
 sa : BsAt wr ga A
 la : A.length = nw
 sh : BsAt wr gh H
 lh : H.length = nw
 ge : w.heap.size ≤ ga ∧ w.heap.size ≤ gh ∧ ga ≠ gh
section
variable {w wr w' : World} {m : Value} {b2 ba bh ga gh nw : Nat} {A H : List Nat}
end
def FsK (rs : List Rx) (k p : Nat) : Prop := ∃ (i : Nat) (l : List Nat), i < k ∧ (fstS rs 0)[i]? = some l ∧ p ∈ l
theorem nwd_div {p N : Nat} (h : p < N) : p / 64 < nwd N := by unfold nwd; omega
theorem cell_lt {w : World} {p : Addr} {v : Value} (h : w.cell? p = some v) : p.block < w.heap.size := by
 rcases Nat.lt_or_ge p.block w.heap.size with hl | hl
 ·exact hl
 ·have : w.heap[p.block]? = none := Array.getElem?_eq_none hl
  simp [World.cell?, this] at h
theorem cell_below {w w' : World} {p : Addr} {v : Value} (hb : Below w.heap.size w w') (h : w.cell? p = some v) : w'.cell? p = some v := (hb.cell (p := p) (cell_lt h)).trans h
theorem kb_setCells (g : Nat) : ∀ (vs : List Value) (o : Nat) (w : World), Kb (fun i => i = g) w (w.setCells g o vs)
 | [], _, w => Kb.refl _ w
 | v :: vs, o, w => (Kb.setCell w ⟨g, o, none⟩ v).trans (kb_setCells g vs (o + 1) _) (fun _ _ h => h)
def AhS (rs : List Rx) (u : List UInt8) (q : Nat) : Prop := (u = [] ∧ FsS rs q) ∨ (u ≠ [] ∧ ∃ p, RcS rs u p ∧ folS rs 0 p q = true)
theorem AhS.nil (rs : List Rx) (q : Nat) : AhS rs [] q ↔ FsS rs q := by simp [AhS]
theorem AhS.some (rs : List Rx) (u : List UInt8) (hu : u ≠ []) (q : Nat) : AhS rs u q ↔ ∃ p, RcS rs u p ∧ folS rs 0 p q = true := by simp [AhS, hu]
theorem RcS.of_ah (rs : List Rx) (u : List UInt8) (c : UInt8) (q : Nat) : RcS rs (u ++ [c]) q ↔ AhS rs u q ∧ hsS rs q c = true := by
 rcases List.eq_nil_or_concat u with rfl | ⟨v, d, rfl⟩
 ·rw [AhS.nil]; exact RcS.one rs c q
 ·rw [AhS.some rs _ (by simp), RcS.step rs _ (by simp)]
def mrk (D : Nat) : Deferred := { target := .collected D, args := #[] }
def RcL (w wr : World) (rs : List Rx) (m : Value) (b2 ba bh ga gh nw gs : Nat) (C : Array Value) (fz : Nat × Nat) (L : List UInt8) (i : Nat) (Ds : List Nat) : Prop :=
 ∃ A H, RcF w wr m b2 ba bh ga gh nw A H ∧ (∀ q, bt H q = true ↔ AhS rs (L.take i) q) ∧ (i ≠ 0 → ∀ q, bt A q = true ↔ RcS rs (L.take i) q) ∧ wr.heap[gs]? = some (.cells C 5 fz) ∧ Ds.Nodup ∧ ∀ D ∈ Ds, wr.heap[D]? = some (.deferred (some [])) ∧ w.heap.size ≤ D
end Go.Proofs.YtejdfpieblkapaaGreatDoor

/- An automaton in memory, and what it tells. -/
namespace Go.Proofs.YtejdfpieblkapaaGreatDoor
open Go.RowKit Go.Shelf

def av : Option Nat → Value
 | none => .int .i64 (-1)
 | some q => pv q
structure Df where
 N : Nat
 K : Nat
 nw : Nat
 cl : Nat → Nat
 nx : Nat → Nat → Option Nat
 ac : Nat → Option Nat
 ps : Nat → List Nat
structure DfAt (w : World) (d : Nat) (D : Df) (gs ga gn cs ca cn : Nat) : Prop where
 n1 : D.N ≤ 100000
 k1 : D.K ≤ 256
 clk : ∀ b < 256, D.cl b < D.K
 c0 : w.cell? ⟨d, 0, none⟩ = some (.slice (some ⟨gs, 0, none⟩) D.N cs)
 c1 : w.cell? ⟨d, 1, none⟩ = some (.slice (some ⟨ga, 0, none⟩) D.N ca)
 c2 : w.cell? ⟨d, 2, none⟩ = some (.slice (some ⟨gn, 0, none⟩) D.N cn)
 c3 : ∀ b < 256, w.cell? ⟨d, 3 + b, none⟩ = some (pv (D.cl b))
 c4 : w.cell? ⟨d, 259, none⟩ = some (pv D.K)
 a : ∀ n < D.N, w.cell? ⟨ga, n, none⟩ = some (av (D.ac n))
 x : ∀ n < D.N, ∃ gr cr, w.cell? ⟨gn, n, none⟩ = some (.slice (some ⟨gr, 0, none⟩) D.K cr) ∧ ∀ k < D.K, w.cell? ⟨gr, k, none⟩ = some (av (D.nx n k))
 p : ∀ n < D.N, ∃ gp, w.cell? ⟨gs, n, none⟩ = some (bsV gp D.nw) ∧ BsAt w gp (D.ps n) ∧ (D.ps n).length = D.nw
theorem DfAt.below {w w' : World} {d gs ga gn cs ca cn : Nat} {D : Df} (h : DfAt w d D gs ga gn cs ca cn) (hb : Below w.heap.size w w') : DfAt w' d D gs ga gn cs ca cn where
 n1 := h.n1
 k1 := h.k1
 clk := h.clk
 c0 := cell_below hb h.c0
 c1 := cell_below hb h.c1
 c2 := cell_below hb h.c2
 c3 := fun b hb' => cell_below hb (h.c3 b hb')
 c4 := cell_below hb h.c4
 a := fun n hn => cell_below hb (h.a n hn)
 x := fun n hn => by
  obtain ⟨gr, cr, h1, h2⟩ := h.x n hn
  exact ⟨gr, cr, cell_below hb h1, fun k hk => cell_below hb (h2 k hk)⟩
 p := fun n hn => by
  obtain ⟨gp, h1, h2, h3⟩ := h.p n hn
  exact ⟨gp, cell_below hb h1, h2.below hb, h3⟩

set_option maxRecDepth 100000
set_option maxHeartbeats 1000000
theorem states_df (w : World) (d gn N cn : Nat) (h : w.cell? ⟨d, 2, none⟩ = some (.slice (some ⟨gn, 0, none⟩) N cn)) : Calls Tryz.prog 31 #[ptr d] w fun e w' => e = .returned (.int .i64 N) ∧ w' = w := by
 go_enter Tryz.func31, Tryz.ntmps31
 go_wp2
 go_ret
 exact ⟨rfl, rfl⟩
theorem state_yes (w : World) (d gn N cn n : Nat) (h : w.cell? ⟨d, 2, none⟩ = some (.slice (some ⟨gn, 0, none⟩) N cn)) (hn : n < N) : Calls Tryz.prog 62 #[ptr d, .int .i64 n] w fun e w' => e = .returned (.bool true) ∧ w' = w := by
 have HR := Lib.hid (states_df w d gn N cn h)
 have h0 : (0 : Int) ≤ n := by omega
 have h1 : (n : Int) < N := by omega
 clear h
 go_enter Tryz.func62, Tryz.ntmps62
 go_wp2_with fail
 refine HR.out.mono ?_
 rintro e w1 ⟨rfl, rfl⟩
 go_wp2
 go_ret
 simp
theorem classes_df (w : World) (d K : Nat) (h : w.cell? ⟨d, 259, none⟩ = some (pv K)) : Calls Tryz.prog 37 #[ptr d] w fun e w' => e = .returned (pv K) ∧ w' = w := by
 go_enter Tryz.func37, Tryz.ntmps37
 go_wp2
 go_ret
 exact ⟨rfl, rfl⟩
theorem class_df (w : World) (d c : Nat) (b : UInt8) (h : w.cell? ⟨d, 3 + b.toNat, none⟩ = some (pv c)) : Calls Tryz.prog 36 #[ptr d, .int .u8 b.toNat] w fun e w' => e = .returned (pv c) ∧ w' = w := by
 have hb := b.toNat_lt
 generalize b.toNat = k at h hb ⊢
 have h1 : (k : Int) < 256 := by omega
 have h0 : (0 : Int) ≤ k := by omega
 go_enter Tryz.func36, Tryz.ntmps36
 go_wp2
 go_ret
 exact ⟨rfl, rfl⟩
def nxA : Option Nat → Value
 | none => .tuple #[.int .i64 0, .bool false]
 | some q => .tuple #[pv q, .bool true]
theorem next_df (w : World) (d gs ga gn cs ca cn n : Nat) (D : Df) (b : UInt8) (h : DfAt w d D gs ga gn cs ca cn) (hn : n < D.N) :
  Calls Tryz.prog 34 #[ptr d, .int .i64 n, .int .u8 b.toNat] w fun e w' => e = .returned (nxA (D.nx n (D.cl b.toNat))) ∧ Below w.heap.size w w' := by
 have HS := Lib.hid (state_yes w d gn D.N cn n h.c2 hn)
 have hb : b.toNat < 256 := b.toNat_lt
 obtain ⟨gr, cr, x1, x2⟩ := h.x n hn
 have hc := h.clk _ hb
 have x3 := x2 _ hc
 have x4 := h.c3 _ hb
 have c2 := h.c2
 generalize D.nx n (D.cl b.toNat) = o at x3 ⊢
 generalize D.cl b.toNat = c at x3 x4 hc
 generalize b.toNat = k at x4 hb ⊢
 generalize D.N = N at c2 hn HS
 generalize D.K = K at x1 hc
 clear x2 h
 have h1 : (k : Int) < 256 := by omega
 have h0 : (0 : Int) ≤ k := by omega
 have h2 : (n : Int) < N := by omega
 have h3 : (0 : Int) ≤ n := by omega
 have h4 : (c : Int) < K := by omega
 have h5 : (0 : Int) ≤ c := by omega
 cases o with
 | none =>
  unfold av at x3
  go_enter Tryz.func34, Tryz.ntmps34
  go_wp2_with fail
  refine HS.out.mono ?_
  rintro e w1 ⟨rfl, rfl⟩
  go_wp2_with fail
  go_region
  go_wp2
  go_ret2
  exact ⟨rfl, (Below.refl _ _).drew⟩
 | some q =>
  unfold av at x3
  have hq : ¬ (q : Int) = -1 := by omega
  go_enter Tryz.func34, Tryz.ntmps34
  go_wp2_with fail
  refine HS.out.mono ?_
  rintro e w1 ⟨rfl, rfl⟩
  go_wp2_with fail
  go_region
  go_wp2
  go_ret2
  exact ⟨rfl, (Below.refl _ _).drew⟩
theorem accept_df (w : World) (d gs ga gn cs ca cn n : Nat) (D : Df) (h : DfAt w d D gs ga gn cs ca cn) (hn : n < D.N) :
  Calls Tryz.prog 29 #[ptr d, .int .i64 n] w fun e w' => e = .returned (av (D.ac n)) ∧ w' = w := by
 have HS := Lib.hid (state_yes w d gn D.N cn n h.c2 hn)
 have x1 := h.c1
 have x2 := h.a n hn
 generalize D.N = N at x1 hn HS
 generalize av (D.ac n) = o at x2 ⊢
 clear h
 have h2 : (n : Int) < N := by omega
 have h3 : (0 : Int) ≤ n := by omega
 go_enter Tryz.func29, Tryz.ntmps29
 go_wp2_with fail
 refine HS.out.mono ?_
 rintro e w1 ⟨rfl, rfl⟩
 go_wp2
 go_ret
 exact ⟨rfl, rfl⟩
theorem dnew_nil (w : World) : Calls Tryz.prog 30 #[.pointer none] w fun e w' => e = .returned (.tuple #[.pointer none, .int .i64 1]) ∧ w' = w := by
 go_enter Tryz.func30, Tryz.ntmps30
 go_wp2
 go_ret2
 exact ⟨rfl, rfl⟩
end Go.Proofs.YtejdfpieblkapaaGreatDoor
