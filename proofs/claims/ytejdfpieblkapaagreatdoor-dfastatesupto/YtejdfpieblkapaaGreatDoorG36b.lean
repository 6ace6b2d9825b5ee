/- reach: what stands where between its steps; more of its mathematics. -/
import Derived.Test.YtejdfpieblkapaaGreatDoorG35
import Derived.Laws.IdiomStrings
import Derived.Deep.Onto
namespace Go.Proofs.YtejdfpieblkapaaGreatDoor
open Go.RowKit Go.Shelf

structure RcF (w wr : World) (m : Value) (b2 ba bh ga gh nw : Nat) (A H : List Nat) : Prop where
 bl : Below w.heap.size w wr
 bm : wr.heap[b2]? = some (.cells #[m] 28 (0, 0))
 xa : wr.heap[ba]? = some (.cells #[bsV ga nw] 87 (0, 0))
 xh : wr.heap[bh]? = some (.cells #[bsV gh nw] 87 (0, 0))
 sa : BsAt wr ga A
 la : A.length = nw
 sh : BsAt wr gh H
 lh : H.length = nw
 ge : w.heap.size ≤ ga ∧ w.heap.size ≤ gh ∧ ga ≠ gh
section
variable {w wr w' : World} {m : Value} {b2 ba bh ga gh nw : Nat} {A H : List Nat}
end
def FsK (rs : List Rx) (k p : Nat) : Prop := ∃ (i : Nat) (l : List Nat), i < k ∧ (fstS rs 0)[i]? = some l ∧ p ∈ l
theorem nwd_div {p N : Nat} (h : p < N) : p / 64 < nwd N := by unfold nwd; omega
theorem cell_lt {w : World} {p : Addr} {v : Value} (h : w.cell? p = some v) : p.block < w.heap.size := by
 rcases Nat.lt_or_ge p.block w.heap.size with hl | hl
 ·exact hl
 ·have : w.heap[p.block]? = none := Array.getElem?_eq_none hl
  simp [World.cell?, this] at h
theorem cell_below {w w' : World} {p : Addr} {v : Value} (hb : Below w.heap.size w w') (h : w.cell? p = some v) : w'.cell? p = some v := (hb.cell (p := p) (cell_lt h)).trans h
theorem kb_setCells (g : Nat) : ∀ (vs : List Value) (o : Nat) (w : World), Kb (fun i => i = g) w (w.setCells g o vs)
 | [], _, w => Kb.refl _ w
 | v :: vs, o, w => (Kb.setCell w ⟨g, o, none⟩ v).trans (kb_setCells g vs (o + 1) _) (fun _ _ h => h)
def AhS (rs : List Rx) (u : List UInt8) (q : Nat) : Prop := (u = [] ∧ FsS rs q) ∨ (u ≠ [] ∧ ∃ p, RcS rs u p ∧ folS rs 0 p q = true)
theorem AhS.nil (rs : List Rx) (q : Nat) : AhS rs [] q ↔ FsS rs q := by simp [AhS]
theorem AhS.some (rs : List Rx) (u : List UInt8) (hu : u ≠ []) (q : Nat) : AhS rs u q ↔ ∃ p, RcS rs u p ∧ folS rs 0 p q = true := by simp [AhS, hu]
theorem RcS.of_ah (rs : List Rx) (u : List UInt8) (c : UInt8) (q : Nat) : RcS rs (u ++ [c]) q ↔ AhS rs u q ∧ hsS rs q c = true := by
 rcases List.eq_nil_or_concat u with rfl | ⟨v, d, rfl⟩
 ·rw [AhS.nil]; exact RcS.one rs c q
 ·rw [AhS.some rs _ (by simp), RcS.step rs _ (by simp)]
def mrk (D : Nat) : Deferred := { target := .collected D, args := #[] }
def RcL (w wr : World) (rs : List Rx) (m : Value) (b2 ba bh ga gh nw gs : Nat) (C : Array Value) (fz : Nat × Nat) (L : List UInt8) (i : Nat) (Ds : List Nat) : Prop :=
 ∃ A H, RcF w wr m b2 ba bh ga gh nw A H ∧ (∀ q, bt H q = true ↔ AhS rs (L.take i) q) ∧ (i ≠ 0 → ∀ q, bt A q = true ↔ RcS rs (L.take i) q) ∧ wr.heap[gs]? = some (.cells C 5 fz) ∧ Ds.Nodup ∧ ∀ D ∈ Ds, wr.heap[D]? = some (.deferred (some [])) ∧ w.heap.size ≤ D
end Go.Proofs.YtejdfpieblkapaaGreatDoor

/- An automaton in memory, and what it tells. -/
namespace Go.Proofs.YtejdfpieblkapaaGreatDoor
open Go.RowKit Go.Shelf

def av : Option Nat → Value
 | none => .int .i64 (-1)
 | some q => pv q
structure Df where
 N : Nat
 K : Nat
 nw : Nat
 cl : Nat → Nat
 nx : Nat → Nat → Option Nat
 ac : Nat → Option Nat
 ps : Nat → List Nat
structure DfAt (w : World) (d : Nat) (D : Df) (gs ga gn cs ca cn : Nat) : Prop where
 n1 : D.N ≤ 100000
 k1 : D.K ≤ 256
 clk : ∀ b < 256, D.cl b < D.K
 c0 : w.cell? ⟨d, 0, none⟩ = some (.slice (some ⟨gs, 0, none⟩) D.N cs)
 c1 : w.cell? ⟨d, 1, none⟩ = some (.slice (some ⟨ga, 0, none⟩) D.N ca)
 c2 : w.cell? ⟨d, 2, none⟩ = some (.slice (some ⟨gn, 0, none⟩) D.N cn)
 c3 : ∀ b < 256, w.cell? ⟨d, 3 + b, none⟩ = some (pv (D.cl b))
 c4 : w.cell? ⟨d, 259, none⟩ = some (pv D.K)
 a : ∀ n < D.N, w.cell? ⟨ga, n, none⟩ = some (av (D.ac n))
 x : ∀ n < D.N, ∃ gr cr, w.cell? ⟨gn, n, none⟩ = some (.slice (some ⟨gr, 0, none⟩) D.K cr) ∧ ∀ k < D.K, w.cell? ⟨gr, k, none⟩ = some (av (D.nx n k))
 p : ∀ n < D.N, ∃ gp, w.cell? ⟨gs, n, none⟩ = some (bsV gp D.nw) ∧ BsAt w gp (D.ps n) ∧ (D.ps n).length = D.nw
theorem DfAt.below {w w' : World} {d gs ga gn cs ca cn : Nat} {D : Df} (h : DfAt w d D gs ga gn cs ca cn) (hb : Below w.heap.size w w') : DfAt w' d D gs ga gn cs ca cn where
 n1 := h.n1
 k1 := h.k1
 clk := h.clk
 c0 := cell_below hb h.c0
 c1 := cell_below hb h.c1
 c2 := cell_below hb h.c2
 c3 := fun b hb' => cell_below hb (h.c3 b hb')
 c4 := cell_below hb h.c4
 a := fun n hn => cell_below hb (h.a n hn)
 x := fun n hn => by
  obtain ⟨gr, cr, h1, h2⟩ := h.x n hn
  exact ⟨gr, cr, cell_below hb h1, fun k hk => cell_below hb (h2 k hk)⟩
 p := fun n hn => by
  obtain ⟨gp, h1, h2, h3⟩ := h.p n hn
  exact ⟨gp, cell_below hb h1, h2.below hb, h3⟩

set_option maxRecDepth 100000
set_option maxHeartbeats 1000000
theorem states_df (w : World) (d gn N cn : Nat) (h : w.cell? ⟨d, 2, none⟩ = some (.slice (some ⟨gn, 0, none⟩) N cn)) : Calls Tryz.prog 31 #[ptr d] w fun e w' => e = .returned (.int .i64 N) ∧ w' = w := by
 go_enter Tryz.func31, Tryz.ntmps31
 go_wp2
 go_ret
 exact ⟨rfl, rfl⟩
theorem state_yes (w : World) (d gn N cn n : Nat) (h : w.cell? ⟨d, 2, none⟩ = some (.slice (some ⟨gn, 0, none⟩) N cn)) (hn : n < N) : Calls Tryz.prog 62 #[ptr d, .int .i64 n] w fun e w' => e = .returned (.bool true) ∧ w' = w := by
 have HR := Lib.hid (states_df w d gn N cn h)
 have h0 : (0 : Int) ≤ n := by omega
 have h1 : (n : Int) < N := by omega
 clear h
 go_enter Tryz.func62, Tryz.ntmps62
 go_wp2_with fail
 refine HR.out.mono ?_
 rintro e w1 ⟨rfl, rfl⟩
 go_wp2
 go_ret
 simp
def nxA : Option Nat → Value
 | none => .tuple #[.int .i64 0, .bool false]
 | some q => .tuple #[pv q, .bool true]
theorem next_df (w : World) (d gs ga gn cs ca cn n : Nat) (D : Df) (b : UInt8) (h : DfAt w d D gs ga gn cs ca cn) (hn : n < D.N) :
  Calls Tryz.prog 34 #[ptr d, .int .i64 n, .int .u8 b.toNat] w fun e w' => e = .returned (nxA (D.nx n (D.cl b.toNat))) ∧ Below w.heap.size w w' := by
 have HS := Lib.hid (state_yes w d gn D.N cn n h.c2 hn)
 have hb : b.toNat < 256 := b.toNat_lt
 obtain ⟨gr, cr, x1, x2⟩ := h.x n hn
 have hc := h.clk _ hb
 have x3 := x2 _ hc
 have x4 := h.c3 _ hb
 have c2 := h.c2
 generalize D.nx n (D.cl b.toNat) = o at x3 ⊢
 generalize D.cl b.toNat = c at x3 x4 hc
 generalize b.toNat = k at x4 hb ⊢
 generalize D.N = N at c2 hn HS
 generalize D.K = K at x1 hc
 clear x2 h
 have h1 : (k : Int) < 256 := by omega
 have h0 : (0 : Int) ≤ k := by omega
 have h2 : (n : Int) < N := by omega
 have h3 : (0 : Int) ≤ n := by omega
 have h4 : (c : Int) < K := by omega
 have h5 : (0 : Int) ≤ c := by omega
 cases o with
 | none =>
  unfold av at x3
  go_enter Tryz.func34, Tryz.ntmps34
  go_wp2_with fail
  refine HS.out.mono ?_
  rintro e w1 ⟨rfl, rfl⟩
  go_wp2_with fail
  go_region
  go_wp2
  go_ret2
  exact ⟨rfl, (Below.refl _ _).drew⟩
 | some q =>
  unfold av at x3
  have hq : ¬ (q : Int) = -1 := by omega
  go_enter Tryz.func34, Tryz.ntmps34
  go_wp2_with fail
  refine HS.out.mono ?_
  rintro e w1 ⟨rfl, rfl⟩
  go_wp2_with fail
  go_region
  go_wp2
  go_ret2
  exact ⟨rfl, (Below.refl _ _).drew⟩
theorem accept_df (w : World) (d gs ga gn cs ca cn n : Nat) (D : Df) (h : DfAt w d D gs ga gn cs ca cn) (hn : n < D.N) :
  Calls Tryz.prog 29 #[ptr d, .int .i64 n] w fun e w' => e = .returned (av (D.ac n)) ∧ w' = w := by
 have HS := Lib.hid (state_yes w d gn D.N cn n h.c2 hn)
 have x1 := h.c1
 have x2 := h.a n hn
 generalize D.N = N at x1 hn HS
 generalize av (D.ac n) = o at x2 ⊢
 clear h
 have h2 : (n : Int) < N := by omega
 have h3 : (0 : Int) ≤ n := by omega
 go_enter Tryz.func29, Tryz.ntmps29
 go_wp2_with fail
 refine HS.out.mono ?_
 rintro e w1 ⟨rfl, rfl⟩
 go_wp2
 go_ret
 exact ⟨rfl, rfl⟩
theorem dnew_nil (w : World) : Calls Tryz.prog 30 #[.pointer none] w fun e w' => e = .returned (.tuple #[.pointer none, .int .i64 1]) ∧ w' = w := by
 go_enter Tryz.func30, Tryz.ntmps30
 go_wp2
 go_ret2
 exact ⟨rfl, rfl⟩
end Go.Proofs.YtejdfpieblkapaaGreatDoor

/- An automaton runs. -/
namespace Go.Proofs.YtejdfpieblkapaaGreatDoor
open Lib renaming hid → zh
open Go.RowKit Go.Shelf

def Df.to (D : Df) (o : Option Nat) (b : UInt8) : Option Nat := o.bind fun n => D.nx n (D.cl b.toNat)
def Df.run (D : Df) (l : List UInt8) : Option Nat := l.foldl D.to (some 0)
theorem Df.run_snoc (D : Df) (l : List UInt8) (b : UInt8) : D.run (l ++ [b]) = D.to (D.run l) b := by simp [Df.run]
theorem Df.run_none (D : Df) (l : List UInt8) (k : Nat) (h : D.run (l.take k) = none) : D.run l = none := by
 have e : l = l.take k ++ l.drop k := (List.take_append_drop k l).symm
 have : ∀ m : List UInt8, m.foldl D.to none = none := by
  intro m
  induction m with
  | nil => rfl
  | cons b m ih => exact ih
 rw [e]
 unfold Df.run at h ⊢
 rw [List.foldl_append, h, this]
def Df.Ok (D : Df) : Prop := 0 < D.N ∧ ∀ n k q, n < D.N → D.nx n k = some q → q < D.N
theorem Df.Ok.fold {D : Df} (h : D.Ok) : ∀ (l : List UInt8) (o : Option Nat), (∀ q, o = some q → q < D.N) → ∀ q, l.foldl D.to o = some q → q < D.N
 | [], _, ho => ho
 | b :: l, o, ho => by
  refine h.fold l (D.to o b) (fun q hq => ?_)
  unfold Df.to at hq
  cases o with
  | none => cases hq
  | some n => exact h.2 n _ q (ho n rfl) hq
theorem Df.Ok.run {D : Df} (h : D.Ok) (l : List UInt8) : ∀ q, D.run l = some q → q < D.N := h.fold l (some 0) (fun q hq => by rw [← Option.some.inj hq]; exact h.1)

set_option maxRecDepth 100000 in
set_option maxHeartbeats 1000000 in
theorem drun_df (w : World) (d gs ga gn cs ca cn : Nat) (D : Df) (s : ByteArray) (h : DfAt w d D gs ga gn cs ca cn) (hk : D.Ok) (hs : s.size ≤ 1000) :
  Calls Tryz.prog 28 #[ptr d, .string s] w fun e w' => e = .returned (nxA (D.run s.data.toList)) ∧ Below w.heap.size w w' := by
 have HD := zh h; have HK := zh hk
 clear h hk
 go_enter Tryz.func28, Tryz.ntmps28
 go_wp2_with fail
 go_loopw [6, 7, 8] (fun v o i wr => ∃ k : Nat, k ≤ s.size ∧ i = .int .i64 k ∧ Hid (Below w.heap.size w wr) ∧ ((∃ n, v = pv n ∧ o = .bool true ∧ Hid (D.run (s.data.toList.take k) = some n)) ∨ (v = .int .i64 0 ∧ o = .bool false ∧ Hid (D.run (s.data.toList.take k) = none)))) (fun _ _ i _ => s.size - (intOf i).toNat)
 case atStart => exact ⟨0, Nat.zero_le _, rfl, Below.refl _ _, .inl ⟨0, rfl, rfl, rfl⟩⟩
 case round =>
  obtain ⟨k, hk, rfl, HB, ⟨n, rfl, rfl, HR⟩ | ⟨rfl, rfl, HR⟩⟩ := hrel
  ·by_cases hlt : k < s.size
   ·have hki : (k : Int) < s.size := by omega
    have hk0 : (0 : Int) ≤ k := by omega
    have hlt' : k < s.data.toList.length := by simpa using hlt
    have HT := zh (show s.data.toList.take (k + 1) = s.data.toList.take k ++ [s[k]'hlt] by rw [List.take_add_one, List.getElem?_eq_getElem hlt']; rfl)
    have HN := zh (next_df wr d gs ga gn cs ca cn n D (s[k]'hlt) (HD.out.below HB.out) (HK.out.run _ n HR.out))
    have HR2 := zh (show D.run (s.data.toList.take (k + 1)) = D.nx n (D.cl (s[k]'hlt).toNat) by rw [HT.out, Df.run_snoc, HR.out]; rfl)
    clear HT HR
    go_wp2_with fail
    refine HN.out.mono ?_
    rintro e w2 ⟨rfl, hb2⟩
    have HB2 := zh (HB.out.trans (hb2.mono HB.out.size))
    clear hb2
    cases ho : D.nx n (D.cl (s[k]'hlt).toNat) with
    | none =>
     rw [ho] at HR2
     unfold nxA
     go_wp2_with fail
     go_roundw
     case rel => exact ⟨k + 1, by omega, by go_num, HB2.out, .inr ⟨rfl, rfl, HR2⟩⟩
     case measure => simp [intOf]; omega
    | some q =>
     rw [ho] at HR2
     unfold nxA
     go_wp2_with fail
     go_roundw
     case rel => exact ⟨k + 1, by omega, by go_num, HB2.out, .inl ⟨q, rfl, rfl, HR2⟩⟩
     case measure => simp [intOf]; omega
   ·obtain rfl : k = s.size := by omega
    have HF := zh (show D.run s.data.toList = some n by have := HR.out; rwa [List.take_of_length_le (by simp)] at this)
    clear HR
    go_wp2_with fail
    go_ret2
    rw [HF.out]
    exact ⟨rfl, HB.out⟩
  ·have HF := zh (D.run_none _ k HR.out)
   go_wp2_with fail
   go_ret2
   rw [HF.out]
   exact ⟨rfl, HB.out⟩

set_option maxRecDepth 100000 in
set_option maxHeartbeats 1000000 in
theorem positions_df (w : World) (d gs ga gn cs ca cn n : Nat) (D : Df) (h : DfAt w d D gs ga gn cs ca cn) (hn : n < D.N) (hT : TabH w) (hl : (sbits (D.ps n) D.nw).length ≤ 1000000) (hw : D.nw ≤ 1000000) :
  Calls Tryz.prog 32 #[ptr d, .int .i64 n] w fun e w' => ∃ v, e = .returned v ∧ w'.ownsRow w.heap.size 3 1 v (sbits (D.ps n) D.nw).length ((sbits (D.ps n) D.nw).map (Value.int .i64)) ∧ Below w.heap.size w w' := by
 have HS := zh (state_yes w d gn D.N cn n h.c2 hn)
 have x1 := h.c0
 obtain ⟨gp, x2, x3, x4⟩ := h.p n hn
 have HP := zh x3; have HT := zh hT; have HL := zh x4
 generalize D.N = N at x1 hn HS
 clear h x3 hT x4
 have h2 : (n : Int) < N := by omega
 have h3 : (0 : Int) ≤ n := by omega
 generalize D.ps n = ws at HP HL hl ⊢
 generalize D.nw = nw at x2 hw hl HL ⊢
 have ha := (Below.refl w.heap.size w).alloc (Nat.le_refl _) (.cells #[bsV gp nw] 87)
 have HC := zh (collect_any w.heap.size gp nw ws HL.out.symm hw hl (w.alloc (.cells #[bsV gp nw] 87)) (by simp) (by rw [Lib.cell_of_heap (heap_alloc_new w _)]; rfl) (HP.out.below ha) (HT.out.keep (I := fun _ => True) (KeepI.below ha) trivial))
 have HA := zh ha
 clear ha hl
 go_enter Tryz.func32, Tryz.ntmps32
 go_wp2_with fail
 refine HS.out.mono ?_
 rintro e w1 ⟨rfl, rfl⟩
 go_wp2_with fail
 refine (all_any w1 gp nw).mono ?_
 rintro e w2 ⟨rfl, rfl⟩
 go_wp2_with fail
 refine HC.out.mono ?_
 rintro e w3 ⟨v, rfl, h5, h6⟩
 have H5 := zh h5
 have H6 := zh (HA.out.trans (h6.mono HA.out.size))
 clear h5 h6 HC
 go_wp2_with fail
 go_ret
 exact ⟨_, rfl, (by exact H5.out.mono HA.out.size), H6.out⟩
end Go.Proofs.YtejdfpieblkapaaGreatDoor
