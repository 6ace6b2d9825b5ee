/- Copies of rows; a node's parts; a node's gist. -/
import Derived.Test.YtejdfpieblkapaaGreatDoorG6
import Derived.Test.YtejdfpieblkapaaGreatDoorG4
import Derived.Laws.AppendOwnNone
import Derived.Laws.Cover3
import Derived.Deep.QuietTactic
namespace Go.Proofs.YtejdfpieblkapaaGreatDoor
open Lib renaming hid → zh
open Go.RowKit Go.Shelf

theorem wpList_app_src {P : Program} {w : World} {ops : Array Oper} {rest : List Oper} {o : Oper} {a : Act} {Q : Exit → Act → World → Prop} (hgd : o.guard = none) (s x : Operand) (t : TypeId)
  (ho : o.op = .call { callee := .builtin .append, args := #[s, x], argTypes := #[t, t] }) (base : Nat) (e : TypeId) (i : TypeInfo) (z : Value) (ht : P.underlying t = some (.slice e)) (hi : P.info? e = some i) (hz : i.zero = some z)
  (hsize : i.size = 1) (hby : i.bytes = 8) (hzs : z.cells.size = 1) (v : Value) (n : Nat) (xs : List Value) (hs : a.eval s = v) (hown : w.ownsRow base e 1 v n xs)
  (A : Option Addr) (m c : Nat) (news : List Value) (hx : a.eval x = .slice A m c) (hsrc : (A = none ∧ m = 0 ∧ c = 0 ∧ news = []) ∨ ∃ ad, A = some ad ∧ ∀ j u, news[j]? = some u → w.cell? (ad.add j) = some u)
  (hl : news.length = m) (h1 : ∀ u ∈ news, u.oneCell' = true) (h63 : n + m ≤ 1000000000) (hbase : base ≤ w.heap.size)
  (h : ∀ v' w', w'.ownsRow base e 1 v' (n + m) (xs ++ news) → w.grownBy w' v.ownBlock → wpList P ops Q rest (a.put o.dst v') w') : wpList P ops Q (o :: rest) a w := by
 rcases hsrc with ⟨rfl, rfl, rfl, rfl⟩ | ⟨ad, rfl, hc⟩
 ·exact wpList_append_own_none hgd s x t ho base e i 1 ht hi v n xs hs hown hx (h v w (by simpa using hown) (World.grownBy.refl w _))
 ·exact wpList_append_own w hgd s x t ho base e i z 1 8 ht hi hz hsize hby hzs (by decide) v n xs hs hown ad m c news hx (by omega) hc h1 (by unfold maxLen; omega) (by omega) hbase fun v' w' h2 h3 _ => h v' w' h2 h3
theorem add_none' (g o j : Nat) : (⟨g, o, none⟩ : Addr).add j = ⟨g, o + j, none⟩ := by
 unfold Addr.add
 split
 ·subst_vars; rfl
 ·rfl
theorem own_empty (w : World) (e z : Nat) (_hz : 0 < z) : (w.alloc (.cells #[] e)).ownsRow w.heap.size e z (.slice (some ⟨w.heap.size, 0, none⟩) 0 0) 0 [] :=
 ⟨by simp, .inr ⟨w.heap.size, 0, #[], rfl, Nat.le_refl _, heap_alloc_new w _, Nat.le_refl _, by unfold maxLen; omega, by simp, by simp⟩⟩
theorem own_nil (w : World) (b e z : Nat) : w.ownsRow b e z (.slice none 0 0) 0 [] := ⟨by simp, .inl ⟨rfl, rfl⟩⟩
theorem run_eql_slice_nil {P : Program} (w : World) (t e : TypeId) (a : Option Addr) (l c : Nat) (h : P.underlying t = some (.slice e)) : (binOp .eql t (.slice a l c) (.slice none 0 0)).run P w = .ok (.bool a.isNone) w := by
 simp only [binOp]
 simp [run_equal_slice_nil w t e a l c h]
theorem Tryz.info68g : (Tryz.prog.info? 68).map (fun i => (i.zero, i.size, i.bytes)) = some (some (.pointer none), 1, 8) := by kernel_rfl

set_option maxRecDepth 100000 in
set_option maxHeartbeats 1000000 in
theorem clone_nd (A : Option Addr) (n c : Nat) (bs : List Nat) (w : World) (hr : RowAt w A bs) (hl : bs.length = n) (hn : n ≤ 1000000) (hA : n = 0 → A = none ∧ c = 0) :
  Calls Tryz.prog 79 #[.slice A n c] w fun e w' => ∃ v, e = .returned v ∧ w'.ownsRow w.heap.size 68 1 v n (bs.map ptr) ∧ Below w.heap.size w w' := by
 obtain ⟨i0, hi0, hz0, hz1, hz2⟩ := info_parts Tryz.info68g
 have HI := zh hi0; have HZ0 := zh hz0; have HZ1 := zh hz1; have HZ2 := zh hz2
 clear hi0 hz0 hz1 hz2
 have HR := zh hr; have HL := zh hl
 clear hr hl
 cases A with
 | none =>
  have hbs : bs = [] := by
   rcases HR.out with h | ⟨g, cs, fz, h, _⟩
   ·exact h
   ·cases h
  subst hbs
  obtain rfl : n = 0 := by rw [← HL.out]; rfl
  obtain ⟨_, rfl⟩ := hA rfl
  have heq : ∀ w' : World, (binOp .eql 24 (.slice none 0 0) (.slice none 0 0)).run Tryz.prog w' = .ok (.bool true) w' := fun w' => run_eql_slice_nil w' 24 68 none 0 0 Tryz.underlying24
  go_enter Tryz.func79, Tryz.ntmps79
  go_wp2
  go_ret
  exact ⟨_, rfl, own_nil _ _ _ _, Below.refl _ _⟩
 | some a =>
  have hne : n ≠ 0 := fun h => by cases (hA h).1
  have hA' := zh hA
  clear hA hA'
  obtain ⟨g, rfl, hg⟩ : ∃ g, a = ⟨g, 0, none⟩ ∧ ∀ (i b : Nat), bs[i]? = some b → w.cell? ⟨g, i, none⟩ = some (ptr b) ∧ g < w.heap.size := by
   rcases HR.out with h | ⟨g, cs, fz, h, h2, h3⟩
   ·subst h; exact absurd HL.out.symm hne
   ·cases h
    exact ⟨g, rfl, fun i b hi => ⟨by rw [Lib.cell_of_heap h2]; exact h3 i b hi, lt_of_heap h2⟩⟩
  have HG := zh hg
  clear hg
  have heq : ∀ w' : World, (binOp .eql 24 (.slice (some ⟨g, 0, none⟩) n c) (.slice none 0 0)).run Tryz.prog w' = .ok (.bool false) w' := fun w' => run_eql_slice_nil w' 24 68 _ n c Tryz.underlying24
  go_enter Tryz.func79, Tryz.ntmps79
  go_wp2_with (at_builtin; refine wpList_app_src rfl _ _ 24 rfl w.heap.size 68 i0 (.pointer none) Tryz.underlying24 HI.out HZ0.out HZ1.out HZ2.out rfl (.slice (some ⟨w.heap.size, 0, none⟩) 0 0) 0 [] rfl (own_empty w 68 1 (by omega)) (some ⟨g, 0, none⟩) n c (bs.map ptr) rfl (.inr ⟨_, rfl, fun j u hu => by rw [List.getElem?_map, Option.map_eq_some_iff] at hu; obtain ⟨b, hb, rfl⟩ := hu; rw [add_none', Nat.zero_add]; exact (((Below.refl _ w).alloc (Nat.le_refl _) _).cell (p := ⟨g, j, none⟩) (HG.out j b hb).2).trans (HG.out j b hb).1⟩) (by rw [List.length_map]; exact HL.out) (by intro u hu; obtain ⟨z, _, rfl⟩ := List.mem_map.1 hu; rfl) (by omega) (by simp) ?_; intro v' w' hown hgrow)
  go_ret
  refine ⟨v', rfl, by simpa using hown, ?_⟩
  exact ((Below.refl _ w).alloc (Nat.le_refl _) _).grown hgrow (by simp) (fun j hj => by cases hj; exact Nat.le_refl _)

set_option maxRecDepth 100000 in
set_option maxHeartbeats 1000000 in
theorem parts_any (w : World) (r : Rx) (b : Nat) (ks : List Nat) (h : NdAt w r b) (hk : Kids w b ks) (hn : NdsAt w r.kidsL ks) :
  Calls Tryz.prog 80 #[ptr b] w fun e w' => ∃ v, e = .returned v ∧ w'.ownsRow w.heap.size 68 1 v ks.length (ks.map ptr) ∧ Below w.heap.size w w' := by
 obtain ⟨r', A, hb, hrow⟩ := hk.row
 have hlen : ks.length ≤ 2 := by rw [← hn.1]; cases r <;> simp [Rx.kidsL]
 have c5 : w.cell? ⟨b, 5, none⟩ = some (.slice A ks.length ks.length) := by rw [Lib.cell_of_heap hb]; rfl
 have hA : ks.length = 0 → A = none := by
  intro h0
  obtain ⟨A', n, hb', hn'⟩ := h.blk
  have e1 := (hb.inj hb').2.2
  cases r with
  | set s => have h1 : NdB w (.set s) b (.slice none 0 0) := h; have := (hb.inj h1).2.2; simp at this; exact this.1
  | empty => have h1 : NdB w .empty b (.slice none 0 0) := h; have := (hb.inj h1).2.2; simp at this; exact this.1
  | cat x y => have := hn.1; simp [Rx.kidsL] at this; omega
  | or x y => have := hn.1; simp [Rx.kidsL] at this; omega
  | star x => have := hn.1; simp [Rx.kidsL] at this; omega
 have HC := zh (clone_nd A ks.length ks.length ks w hrow rfl (by omega) (fun h => ⟨hA h, h⟩))
 obtain ⟨n, hnn⟩ : ∃ n, n = ks.length := ⟨_, rfl⟩
 rw [← hnn] at c5 HC ⊢
 have hn2 : n ≤ 2 := by omega
 clear hrow hA hb hn hk h hnn hlen
 go_enter Tryz.func80, Tryz.ntmps80
 go_wp2_with fail
 refine HC.out.mono ?_
 rintro e w1 ⟨v, rfl, ho, hb⟩
 go_wp2
 go_ret
 exact ⟨v, rfl, ho, hb⟩
end Go.Proofs.YtejdfpieblkapaaGreatDoor

/- A node's gist, of those of its parts. -/
namespace Go.Proofs.YtejdfpieblkapaaGreatDoor
open Lib renaming hid → zh
open Go.RowKit Go.Shelf

abbrev gsV (n : Nat) (c : Value) (s : Bool) : Value := .agg #[.int .i64 n, c, .bool s]
structure GC (w w1 : World) : Prop where
 blk : w1.heap[w.heap.size]? = some (.cells #[.int .i64 0, .pointer none, .bool false] 85 (0, 0))
 bel : Below w.heap.size w w1
theorem GC.made (w : World) : GC w (w.alloc (.cells #[.int .i64 0, .pointer none, .bool false] 85)) := ⟨heap_alloc_new w _, (Below.refl _ w).alloc (Nat.le_refl _) _⟩
theorem GC.drew {w w1 : World} (h : GC w w1) : GC w w1.drew := ⟨h.blk, h.bel.drew⟩
theorem GC.cells {w w1 : World} (h : GC w w1) : w1.cell? ⟨w.heap.size, 0, none⟩ = some (.int .i64 0) ∧ w1.cell? ⟨w.heap.size, 1, none⟩ = some (.pointer none) ∧ w1.cell? ⟨w.heap.size, 2, none⟩ = some (.bool false) ∧ w1.frozen? ⟨w.heap.size, 0, none⟩ = false ∧ w1.frozen? ⟨w.heap.size, 1, none⟩ = false ∧ w1.frozen? ⟨w.heap.size, 2, none⟩ = false :=
 ⟨by rw [Lib.cell_of_heap h.blk]; rfl, by rw [Lib.cell_of_heap h.blk]; rfl, by rw [Lib.cell_of_heap h.blk]; rfl, Lib.frozen_of_heap h.blk 0, Lib.frozen_of_heap h.blk 1, Lib.frozen_of_heap h.blk 2⟩
theorem GC.set {w w1 : World} (h : GC w w1) (a b c : Value) : (((w1.setCell ⟨w.heap.size, 0, none⟩ a).setCell ⟨w.heap.size, 1, none⟩ b).setCell ⟨w.heap.size, 2, none⟩ c).heap[w.heap.size]? = some (.cells #[a, b, c] 85 (0, 0)) ∧ Below w.heap.size w (((w1.setCell ⟨w.heap.size, 0, none⟩ a).setCell ⟨w.heap.size, 1, none⟩ b).setCell ⟨w.heap.size, 2, none⟩ c) := by
 refine ⟨?_, ?_⟩
 ·rw [set_heap _ _ 2 _ _ _ _ (set_heap _ _ 1 _ _ _ _ (set_heap _ _ 0 _ _ _ _ h.blk))]
  rfl
 ·have hk : ∀ (w0 : World) (j : Nat) (v : Value), Below w.heap.size w w0 → Below w.heap.size w (w0.setCell ⟨w.heap.size, j, none⟩ v) := fun w0 j v h => h.trans ((Kb.setCell w0 ⟨w.heap.size, j, none⟩ v).below h.size (fun i hi => by rw [hi]; exact Nat.le_refl _))
  exact hk _ _ _ (hk _ _ _ (hk _ _ _ h.bel))

set_option maxRecDepth 100000 in
set_option maxHeartbeats 2000000 in
theorem gist_set (w : World) (s : Ws) (b : Nat) (v : Value) (h : NdAt w (.set s) b) : Calls Tryz.prog 81 #[ptr b, v] w fun e w' => e = .returned (gsV 1 (ptr b) false) ∧ Below w.heap.size w w' := by
 obtain ⟨w1, hw1⟩ : ∃ w1, w1 = w.alloc (.cells #[.int .i64 0, .pointer none, .bool false] 85) := ⟨_, rfl⟩
 have hg := GC.made w
 rw [← hw1] at hg
 obtain ⟨z0, z1, z2, f0, f1, f2⟩ := hg.cells
 have HG := zh hg
 have HK := zh (kind_any w1 (.set s) b (h.keep (KN.of_below hg.bel)))
 clear hg h
 go_enter Tryz.func81, Tryz.ntmps81
 go_upto_region 1 with fail
 rw [← hw1]
 clear hw1
 go_wp2_with fail
 refine HK.out.mono ?_
 rintro e w2 ⟨rfl, rfl⟩
 go_wp2_with fail
 obtain ⟨hh, hb⟩ := HG.out.set (.int .i64 1) (ptr b) (.bool false)
 refine bodyPost_ret (results_cell_row rfl _ _ w.heap.size 85 #[.int .i64 1, ptr b, .bool false] (0, 0) _ rfl hh Tryz.underlying85 rfl (by kernel_rfl)) rfl ?_
 exact ⟨rfl, hb⟩
set_option maxRecDepth 100000 in
set_option maxHeartbeats 2000000 in
theorem gist_empty (w : World) (b : Nat) (v : Value) (h : NdAt w .empty b) : Calls Tryz.prog 81 #[ptr b, v] w fun e w' => e = .returned (gsV 0 (.pointer none) false) ∧ Below w.heap.size w w' := by
 obtain ⟨w1, hw1⟩ : ∃ w1, w1 = w.alloc (.cells #[.int .i64 0, .pointer none, .bool false] 85) := ⟨_, rfl⟩
 have hg := GC.made w
 rw [← hw1] at hg
 obtain ⟨z0, z1, z2, f0, f1, f2⟩ := hg.cells
 have HG := zh hg
 have HK := zh (kind_any w1 .empty b (h.keep (KN.of_below hg.bel)))
 clear hg h
 go_enter Tryz.func81, Tryz.ntmps81
 go_upto_region 1 with fail
 rw [← hw1]
 clear hw1
 go_wp2_with fail
 refine HK.out.mono ?_
 rintro e w2 ⟨rfl, rfl⟩
 go_wp2_with fail
 obtain ⟨hh, hb⟩ := HG.out.set (.int .i64 0) (.pointer none) (.bool false)
 refine bodyPost_ret (results_cell_row rfl _ _ w.heap.size 85 #[.int .i64 0, .pointer none, .bool false] (0, 0) _ rfl hh Tryz.underlying85 rfl (by kernel_rfl)) rfl ?_
 exact ⟨rfl, hb⟩
set_option maxRecDepth 100000 in
set_option maxHeartbeats 2000000 in
theorem gist_star (w : World) (x : Rx) (b g n c : Nat) (k : Nat) (p : Option Addr) (h : NdAt w (.star x) b) (hn : 0 < n) (hnc : n ≤ 10) (c0 : w.cell? ⟨g, 0, none⟩ = some (.int .i64 k)) (c1 : w.cell? ⟨g, 1, none⟩ = some (.pointer p)) : Calls Tryz.prog 81 #[ptr b, .slice (some ⟨g, 0, none⟩) n c] w fun e w' => e = .returned (gsV k (.pointer p) true) ∧ Below w.heap.size w w' := by
 obtain ⟨w1, hw1⟩ : ∃ w1, w1 = w.alloc (.cells #[.int .i64 0, .pointer none, .bool false] 85) := ⟨_, rfl⟩
 have hg := GC.made w
 rw [← hw1] at hg
 obtain ⟨z0, z1, z2, f0, f1, f2⟩ := hg.cells
 have HG := zh hg
 have HK := zh (kind_any w1 (.star x) b (h.keep (KN.of_below hg.bel)))
 have d0 : w1.cell? ⟨g, 0, none⟩ = some (.int .i64 k) := (hg.bel.cell (lt_of_cell' c0)).trans c0
 have d1 : w1.cell? ⟨g, 1, none⟩ = some (.pointer p) := (hg.bel.cell (lt_of_cell' c1)).trans c1
 have hni : (0 : Int) < n := by omega
 clear hg h c0 c1
 go_enter Tryz.func81, Tryz.ntmps81
 go_upto_region 1 with fail
 rw [← hw1]
 clear hw1
 go_wp2_with fail
 refine HK.out.mono ?_
 rintro e w2 ⟨rfl, rfl⟩
 go_wp2_with fail
 go_region
 go_wp2_with fail
 obtain ⟨hh, hb⟩ := HG.out.drew.set (.int .i64 k) (.pointer p) (.bool true)
 refine bodyPost_ret (results_cell_row rfl _ _ w.heap.size 85 #[.int .i64 k, .pointer p, .bool true] (0, 0) _ rfl hh Tryz.underlying85 rfl (by kernel_rfl)) rfl ?_
 exact ⟨rfl, hb⟩
structure G2 (w : World) (g : Nat) (xk : Nat) (xp : Option Addr) (xs : Bool) (yk : Nat) (yp : Option Addr) (ys : Bool) : Prop where
 x0 : w.cell? ⟨g, 0, none⟩ = some (.int .i64 xk)
 x1 : w.cell? ⟨g, 1, none⟩ = some (.pointer xp)
 x2 : w.cell? ⟨g, 2, none⟩ = some (.bool xs)
 y0 : w.cell? ⟨g, 3, none⟩ = some (.int .i64 yk)
 y1 : w.cell? ⟨g, 4, none⟩ = some (.pointer yp)
 y2 : w.cell? ⟨g, 5, none⟩ = some (.bool ys)
theorem G2.below {w w' : World} {g xk yk : Nat} {xp yp : Option Addr} {xs ys : Bool} (h : G2 w g xk xp xs yk yp ys) (hb : Below w.heap.size w w') : G2 w' g xk xp xs yk yp ys :=
 ⟨(hb.cell (lt_of_cell' h.x0)).trans h.x0, (hb.cell (lt_of_cell' h.x1)).trans h.x1, (hb.cell (lt_of_cell' h.x2)).trans h.x2, (hb.cell (lt_of_cell' h.y0)).trans h.y0, (hb.cell (lt_of_cell' h.y1)).trans h.y1, (hb.cell (lt_of_cell' h.y2)).trans h.y2⟩
def g2V (b xk : Nat) (xp : Option Addr) (xs : Bool) (yk : Nat) (yp : Option Addr) (ys : Bool) : Value :=
 match xp, yp with
 | none, _ => gsV yk (.pointer yp) ys
 | some _, none => gsV xk (.pointer xp) xs
 | some _, some _ => gsV (min (xk + yk) 2001) (ptr b) false
set_option maxRecDepth 100000 in
set_option maxHeartbeats 2000000 in
theorem gist_none (w : World) (r : Rx) (b g n c xk yk : Nat) (xs ys : Bool) (yp : Option Addr) (h : NdAt w r b) (hr : 2 ≤ r.kind ∧ r.kind ≤ 3) (hn : 1 < n) (hnc : n ≤ 10) (hx : xk ≤ 2001) (hy : yk ≤ 2001) (hg2 : G2 w g xk none xs yk yp ys) : Calls Tryz.prog 81 #[ptr b, .slice (some ⟨g, 0, none⟩) n c] w fun e w' => e = .returned (g2V b xk none xs yk yp ys) ∧ Below w.heap.size w w' := by
 obtain ⟨w1, hw1⟩ : ∃ w1, w1 = w.alloc (.cells #[.int .i64 0, .pointer none, .bool false] 85) := ⟨_, rfl⟩
 have hg := GC.made w
 rw [← hw1] at hg
 obtain ⟨z0, z1, z2, f0, f1, f2⟩ := hg.cells
 have HG := zh hg
 have HK := zh (kind_any w1 r b (h.keep (KN.of_below hg.bel)))
 obtain ⟨x0, x1, x2, y0, y1, y2⟩ := hg2.below hg.bel
 have hni : (1 : Int) < n := by omega
 have hni0 : (0 : Int) < n := by omega
 have hk2 : ((r.kind : Nat) : Int) = 2 ∨ ((r.kind : Nat) : Int) = 3 := by omega
 have hmn : min ((xk : Int) + yk) 2001 = ((min (xk + yk) 2001 : Nat) : Int) := by omega
 have hsw : IntKind.i64.wrap ((xk : Int) + yk) = (xk : Int) + yk := IntWalk.i64_in _ (by omega)
 generalize ((r.kind : Nat) : Int) = κ at HK hk2
 generalize min (xk + yk) 2001 = m at hmn
 have HM := zh hmn
 clear hg h hg2 hr hn
 rcases hk2 with rfl | rfl <;> (
  go_enter Tryz.func81, Tryz.ntmps81
  go_upto_region 1 with fail
  rw [← hw1]
  clear hw1
  go_wp2_with fail
  refine HK.out.mono ?_
  rintro e w2 ⟨rfl, rfl⟩
  go_wp2_with fail
  obtain ⟨hh, hb⟩ := HG.out.set (.int .i64 yk) (.pointer yp) (.bool ys)
  refine bodyPost_ret (results_cell_row rfl _ _ w.heap.size 85 #[.int .i64 yk, .pointer yp, .bool ys] (0, 0) _ rfl hh Tryz.underlying85 rfl (by kernel_rfl)) rfl ?_
  exact ⟨rfl, hb⟩)
set_option maxRecDepth 100000 in
set_option maxHeartbeats 2000000 in
theorem gist_one (w : World) (r : Rx) (b g n c xk yk : Nat) (xs ys : Bool) (a : Addr) (h : NdAt w r b) (hr : 2 ≤ r.kind ∧ r.kind ≤ 3) (hn : 1 < n) (hnc : n ≤ 10) (hx : xk ≤ 2001) (hy : yk ≤ 2001) (hg2 : G2 w g xk (some a) xs yk none ys) : Calls Tryz.prog 81 #[ptr b, .slice (some ⟨g, 0, none⟩) n c] w fun e w' => e = .returned (g2V b xk (some a) xs yk none ys) ∧ Below w.heap.size w w' := by
 obtain ⟨w1, hw1⟩ : ∃ w1, w1 = w.alloc (.cells #[.int .i64 0, .pointer none, .bool false] 85) := ⟨_, rfl⟩
 have hg := GC.made w
 rw [← hw1] at hg
 obtain ⟨z0, z1, z2, f0, f1, f2⟩ := hg.cells
 have HG := zh hg
 have HK := zh (kind_any w1 r b (h.keep (KN.of_below hg.bel)))
 obtain ⟨x0, x1, x2, y0, y1, y2⟩ := hg2.below hg.bel
 have hni : (1 : Int) < n := by omega
 have hni0 : (0 : Int) < n := by omega
 have hk2 : ((r.kind : Nat) : Int) = 2 ∨ ((r.kind : Nat) : Int) = 3 := by omega
 have hmn : min ((xk : Int) + yk) 2001 = ((min (xk + yk) 2001 : Nat) : Int) := by omega
 have hsw : IntKind.i64.wrap ((xk : Int) + yk) = (xk : Int) + yk := IntWalk.i64_in _ (by omega)
 generalize ((r.kind : Nat) : Int) = κ at HK hk2
 generalize min (xk + yk) 2001 = m at hmn
 have HM := zh hmn
 clear hg h hg2 hr hn
 rcases hk2 with rfl | rfl <;> (
  go_enter Tryz.func81, Tryz.ntmps81
  go_upto_region 1 with fail
  rw [← hw1]
  clear hw1
  go_wp2_with fail
  refine HK.out.mono ?_
  rintro e w2 ⟨rfl, rfl⟩
  go_wp2_with fail
  obtain ⟨hh, hb⟩ := HG.out.set (.int .i64 xk) (.pointer (some a)) (.bool xs)
  refine bodyPost_ret (results_cell_row rfl _ _ w.heap.size 85 #[.int .i64 xk, .pointer (some a), .bool xs] (0, 0) _ rfl hh Tryz.underlying85 rfl (by kernel_rfl)) rfl ?_
  exact ⟨rfl, hb⟩)
set_option maxRecDepth 100000 in
set_option maxHeartbeats 2000000 in
theorem gist_both (w : World) (r : Rx) (b g n c xk yk : Nat) (xs ys : Bool) (a a' : Addr) (h : NdAt w r b) (hr : 2 ≤ r.kind ∧ r.kind ≤ 3) (hn : 1 < n) (hnc : n ≤ 10) (hx : xk ≤ 2001) (hy : yk ≤ 2001) (hg2 : G2 w g xk (some a) xs yk (some a') ys) : Calls Tryz.prog 81 #[ptr b, .slice (some ⟨g, 0, none⟩) n c] w fun e w' => e = .returned (g2V b xk (some a) xs yk (some a') ys) ∧ Below w.heap.size w w' := by
 obtain ⟨w1, hw1⟩ : ∃ w1, w1 = w.alloc (.cells #[.int .i64 0, .pointer none, .bool false] 85) := ⟨_, rfl⟩
 have hg := GC.made w
 rw [← hw1] at hg
 obtain ⟨z0, z1, z2, f0, f1, f2⟩ := hg.cells
 have HG := zh hg
 have HK := zh (kind_any w1 r b (h.keep (KN.of_below hg.bel)))
 obtain ⟨x0, x1, x2, y0, y1, y2⟩ := hg2.below hg.bel
 have hni : (1 : Int) < n := by omega
 have hni0 : (0 : Int) < n := by omega
 have hk2 : ((r.kind : Nat) : Int) = 2 ∨ ((r.kind : Nat) : Int) = 3 := by omega
 have hmn : min ((xk : Int) + yk) 2001 = ((min (xk + yk) 2001 : Nat) : Int) := by omega
 have hsw : IntKind.i64.wrap ((xk : Int) + yk) = (xk : Int) + yk := IntWalk.i64_in _ (by omega)
 generalize ((r.kind : Nat) : Int) = κ at HK hk2
 generalize hm : min (xk + yk) 2001 = m at hmn
 have HM := zh hm
 clear hm
 clear hg h hg2 hr hn
 rcases hk2 with rfl | rfl <;> (
  go_enter Tryz.func81, Tryz.ntmps81
  go_upto_region 1 with fail
  rw [← hw1]
  clear hw1
  go_wp2_with fail
  refine HK.out.mono ?_
  rintro e w2 ⟨rfl, rfl⟩
  go_wp2_with fail
  go_region
  go_wp2_with fail
  obtain ⟨hh, hb⟩ := HG.out.drew.set (.int .i64 m) (ptr b) (.bool false)
  refine bodyPost_ret (results_cell_row rfl _ _ w.heap.size 85 #[.int .i64 m, ptr b, .bool false] (0, 0) _ rfl hh Tryz.underlying85 rfl (by kernel_rfl)) rfl ?_
  exact ⟨by show _ = Ending.returned (gsV (min (xk + yk) 2001) (ptr b) false); rw [HM.out], hb⟩)
end Go.Proofs.YtejdfpieblkapaaGreatDoor

/- gists: mathematics of its round; rows of gists. -/
namespace Go.Proofs.YtejdfpieblkapaaGreatDoor
open Go.RowKit Go.Shelf

theorem own_get' {w : World} {base e n : Nat} {A : Option Addr} {c i : Nat} {xs : List Value} {x : Value} (h : w.ownsRow base e 1 (.slice A n c) n xs) (hi : xs[i]? = some x) : ∃ g, A = some ⟨g, 0, none⟩ ∧ w.cell? ⟨g, i, none⟩ = some x ∧ c ≤ 9223372036854775807 ∧ n ≤ c := by
 rcases h.2 with ⟨hv, hn⟩ | ⟨g, cap, cur, hv, hb, hh, h1, h2, h3, h4⟩
 ·have := h.1
  rw [hn] at this
  have : xs = [] := List.length_eq_zero_iff.1 (by omega)
  subst this; simp at hi
 ·injection hv with e1 e2 e3
  subst e3
  refine ⟨g, e1, ?_, by unfold maxLen at h2; omega, h1⟩
  rw [Lib.cell_of_heap hh]
  rw [← h4] at hi
  have hlt : i < n * 1 := by
   have := (List.getElem?_eq_some_iff.1 hi).1
   rw [List.length_take] at this
   omega
  rw [List.getElem?_take_of_lt hlt] at hi
  simpa using hi
theorem own_snoc' {w : World} {base e n : Nat} {v x : Value} {xs : List Value} (h : w.ownsRow base e 1 v (n + 1) (xs ++ [x])) (hn : xs.length = n) :
  ∃ g cap, v = .slice (some ⟨g, 0, none⟩) (n + 1) cap ∧ w.cell? ⟨g, n, none⟩ = some x ∧ n + 1 ≤ cap ∧ cap ≤ 9223372036854775807 ∧ w.ownsRow base e 1 (.slice (some ⟨g, 0, none⟩) n cap) n xs := by
 rcases h.2 with ⟨_, h0⟩ | ⟨g, cap, cur, hv, hb, hh, h1, h2, h3, h4⟩
 ·omega
 ·rw [Nat.mul_one] at h4
  refine ⟨g, cap, hv, ?_, h1, by unfold maxLen at h2; omega, by rw [hn, Nat.mul_one], .inr ⟨g, cap, cur, rfl, hb, hh, by omega, h2, h3, ?_⟩⟩
  ·rw [Lib.cell_of_heap hh]
   have : (cur.toList.take (n + 1))[n]? = some x := by rw [h4, List.getElem?_append_right (by omega), hn]; simp
   rw [List.getElem?_take_of_lt (by omega)] at this
   simpa using this
  ·rw [Nat.mul_one]
   have : (cur.toList.take (n + 1)).take n = xs := by rw [h4, List.take_append_of_le_length (by omega), List.take_of_length_le (by omega)]
   rw [List.take_take, Nat.min_eq_left (by omega)] at this
   exact this
theorem own_cells {w : World} {base e z n : Nat} {A : Option Addr} {c : Nat} {xs : List Value} (h : w.ownsRow base e z (.slice A n c) n xs) (hn : 0 < n) : ∃ g, A = some ⟨g, 0, none⟩ ∧ (∀ (j : Nat) (x : Value), xs[j]? = some x → w.cell? ⟨g, j, none⟩ = some x) ∧ c ≤ 9223372036854775807 ∧ n ≤ c := by
 rcases h.2 with ⟨hv, h0⟩ | ⟨g, cap, cur, hv, hb, hh, h1, h2, h3, h4⟩
 ·omega
 ·injection hv with e1 e2 e3
  subst e3
  refine ⟨g, e1, fun j x hj => ?_, by unfold maxLen at h2; omega, h1⟩
  rw [Lib.cell_of_heap hh]
  rw [← h4] at hj
  have hlt : j < n * z := by
   have := (List.getElem?_eq_some_iff.1 hj).1
   rw [List.length_take] at this
   omega
  rw [List.getElem?_take_of_lt hlt] at hj
  simpa using hj
theorem own_below {w w' : World} {base e size n : Nat} {v : Value} {xs : List Value} (h : w.ownsRow base e size v n xs) (hb : Below w.heap.size w w') : w'.ownsRow base e size v n xs := by
 refine ⟨h.1, h.2.imp id ?_⟩
 rintro ⟨g, cap, cur, rfl, r1, r2, r3⟩
 exact ⟨g, cap, cur, rfl, r1, (hb.block g (lt_of_heap r2)).trans r2, r3⟩

structure Gt where
 k : Nat
 p : Option Addr
 s : Bool
def Gt.cells (g : Gt) : List Value := [.int .i64 g.k, .pointer g.p, .bool g.s]
def Gt.val (g : Gt) : Value := gsV g.k (.pointer g.p) g.s
abbrev zG : Value := .agg #[.int .i64 0, .pointer none, .bool false]
theorem GsV.gt {w : World} {f : Value → Option Value} {r : Rx} {v : Value} (h : GsV w f r v) : ∃ g : Gt, v = g.val ∧ g.k ≤ 2001 := by
 obtain ⟨c, h1, h2⟩ := h
 rcases h2 with ⟨_, rfl⟩ | ⟨k, bk, _, rfl, _⟩
 ·exact ⟨⟨_, none, _⟩, h1, Nat.min_le_right _ _⟩
 ·exact ⟨⟨_, some ⟨bk, 0, none⟩, _⟩, h1, Nat.min_le_right _ _⟩
theorem GsOk.look {w : World} {f : Value → Option Value} (h : GsOk w f) {r : Rx} {b : Nat} (hr : NdAt w r b) : ∃ g : Gt, (f (ptr b)).getD zG = g.val ∧ g.k ≤ 2001 := by
 cases hf : f (ptr b) with
 | none => exact ⟨⟨0, none, false⟩, rfl, Nat.zero_le _⟩
 | some v => exact ((h.at hr hf).1).gt
def gsL (f : Value → Option Value) (ks : List Nat) (G : List Gt) : Prop := G.length = ks.length ∧ ∀ (i c : Nat) (g : Gt), ks[i]? = some c → G[i]? = some g → (f (ptr c)).getD zG = g.val
theorem gsL.nil (f : Value → Option Value) : gsL f [] [] := ⟨rfl, by simp⟩
theorem gsL.snoc {f : Value → Option Value} {ks : List Nat} {G : List Gt} {c : Nat} {g : Gt} (h : gsL f ks G) (hg : (f (ptr c)).getD zG = g.val) : gsL f (ks ++ [c]) (G ++ [g]) := by
 refine ⟨by simp [h.1], fun i c' g' h1 h2 => ?_⟩
 rcases Nat.lt_trichotomy i ks.length with hi | hi | hi
 ·rw [List.getElem?_append_left hi] at h1
  rw [List.getElem?_append_left (by rw [h.1]; exact hi)] at h2
  exact h.2 i c' g' h1 h2
 ·subst hi
  rw [List.getElem?_append_right (Nat.le_refl _)] at h1
  rw [List.getElem?_append_right (by rw [h.1]; exact Nat.le_refl _), h.1] at h2
  simp at h1 h2
  subst h1; subst h2; exact hg
 ·rw [List.getElem?_eq_none (by simp; omega)] at h1; cases h1
theorem two_of_len {α : Type} {l : List α} (h : l.length = 2) : ∃ a b, l = [a, b] := by
 match l, h with
 | [a, b], _ => exact ⟨a, b, rfl⟩
def Rx.gist (r : Rx) (b : Nat) (G : List Gt) : Option Value :=
 match r, G with
 | .set _, _ => some (gsV 1 (ptr b) false)
 | .empty, _ => some zG
 | .star _, [x] => some (gsV x.k (.pointer x.p) true)
 | .cat _ _, [x, y] => some (g2V b x.k x.p x.s y.k y.p y.s)
 | .or _ _, [x, y] => some (g2V b x.k x.p x.s y.k y.p y.s)
 | _, _ => none
theorem gsV_inj {n m : Nat} {c c' : Value} {s s' : Bool} (h : gsV n c s = gsV m c' s') : n = m ∧ c = c' ∧ s = s' := by
 have h' : #[Value.int .i64 (n : Int), c, .bool s] = #[Value.int .i64 (m : Int), c', .bool s'] := by injection h
 have h3 : [Value.int .i64 (n : Int), c, .bool s] = [Value.int .i64 (m : Int), c', .bool s'] := congrArg Array.toList h'
 simp only [List.cons.injEq, Value.int.injEq, true_and, Value.bool.injEq, and_true] at h3
 exact ⟨by omega, h3.2.1, h3.2.2⟩
theorem gist_ok {w : World} {f f' : Value → Option Value} {r : Rx} {b : Nat} {ks : List Nat} {G : List Gt} (hok : GsOk w f) (hr : NdAt w r b) (hn : NdsAt w r.kidsL ks) (hks : ∀ c ∈ ks, (f (ptr c)).isSome = true) (hG : gsL f ks G)
  (h1 : (f' (ptr b)).isSome = true) (h2 : ∀ k, (f k).isSome = true → (f' k).isSome = true) : ∃ v, r.gist b G = some v ∧ GsV w f' r v := by
 have kid : ∀ (i : Nat) (x : Rx) (c : Nat) (g : Gt), r.kidsL[i]? = some x → ks[i]? = some c → G[i]? = some g → GsV w f' x g.val := by
  intro i x c g hx hc hg
  have h3 := hks c (List.mem_of_getElem? hc)
  obtain ⟨v, hv⟩ := Option.isSome_iff_exists.1 h3
  have h4 := hG.2 i c g hc hg
  rw [hv] at h4
  simp only [Option.getD_some] at h4
  rw [← h4]
  exact ((hok.at (hn.2 i x c hx hc) hv).1).mono h2
 have two : ∀ (x y : Rx) (g1 g2 : Gt) (cr : Option Rx) (gs : Bool), GsV w f' x g1.val → GsV w f' y g2.val → r.cnt = x.cnt + y.cnt →
   (r.core = match x.core, y.core with | none, k => k | some k, none => some k | some _, some _ => some r) → (r.gst = match x.core, y.core with | none, _ => y.gst | some _, none => x.gst | some _, some _ => false) → GsV w f' r (g2V b g1.k g1.p g1.s g2.k g2.p g2.s) := by
  intro x y g1 g2 cr gs hx hy hcn hco hgs
  obtain ⟨c1, e1, d1⟩ := hx
  obtain ⟨c2, e2, d2⟩ := hy
  obtain ⟨a1, a2, a3⟩ := gsV_inj e1
  obtain ⟨b1, b2, b3⟩ := gsV_inj e2
  rcases d1 with ⟨n1, n2⟩ | ⟨k1, bk1, n1, n2, n3, n4⟩
  ·rw [n2] at a2
   have hp : g1.p = none := by injection a2
   have hz := x.core_none.1 n1
   rw [n1] at hco hgs
   simp only at hco hgs
   unfold g2V
   rw [hp]
   simp only
   refine ⟨.pointer g2.p, by rw [b1, b3, hcn, hz, hgs, Nat.zero_add], ?_⟩
   rw [hco, b2]
   exact d2
  ·rw [n2] at a2
   have hp : g1.p = some ⟨bk1, 0, none⟩ := by injection a2
   rcases d2 with ⟨m1, m2⟩ | ⟨k2, bk2, m1, m2, m3, m4⟩
   ·rw [m2] at b2
    have hq : g2.p = none := by injection b2
    have hz := y.core_none.1 m1
    rw [n1, m1] at hco hgs
    simp only at hco hgs
    unfold g2V
    rw [hp, hq]
    simp only
    exact ⟨ptr bk1, by rw [a1, a3, hcn, hz, hgs, Nat.add_zero], .inr ⟨k1, bk1, hco, rfl, n3, n4⟩⟩
   ·rw [m2] at b2
    have hq : g2.p = some ⟨bk2, 0, none⟩ := by injection b2
    rw [n1, m1] at hco hgs
    simp only at hco hgs
    unfold g2V
    rw [hp, hq]
    simp only
    exact ⟨ptr b, by rw [a1, b1, hcn, hgs, show min (min x.cnt 2001 + min y.cnt 2001) 2001 = min (x.cnt + y.cnt) 2001 by omega], .inr ⟨r, b, hco, rfl, hr, h1⟩⟩
 have hl : G.length = r.kidsL.length := by rw [hG.1, hn.1]
 have hks2 : ks.length = r.kidsL.length := hn.1.symm
 cases r with
 | set s => exact ⟨_, rfl, ptr b, rfl, .inr ⟨.set s, b, rfl, rfl, hr, h1⟩⟩
 | empty => exact ⟨_, rfl, .pointer none, rfl, .inl ⟨rfl, rfl⟩⟩
 | star x =>
  obtain ⟨g, rfl⟩ := List.length_eq_one_iff.1 hl
  obtain ⟨c, rfl⟩ := List.length_eq_one_iff.1 hks2
  refine ⟨_, rfl, ?_⟩
  obtain ⟨c1, e1, d1⟩ := kid 0 x c g rfl rfl rfl
  obtain ⟨a1, a2, a3⟩ := gsV_inj e1
  exact ⟨.pointer g.p, by rw [a1]; rfl, by rw [a2]; exact d1⟩
 | cat x y =>
  obtain ⟨g1, g2, rfl⟩ := two_of_len hl
  obtain ⟨c1, c2, rfl⟩ := two_of_len hks2
  exact ⟨_, rfl, two x y g1 g2 none false (kid 0 x c1 g1 rfl rfl rfl) (kid 1 y c2 g2 rfl rfl rfl) rfl rfl rfl⟩
 | or x y =>
  obtain ⟨g1, g2, rfl⟩ := two_of_len hl
  obtain ⟨c1, c2, rfl⟩ := two_of_len hks2
  exact ⟨_, rfl, two x y g1 g2 none false (kid 0 x c1 g1 rfl rfl rfl) (kid 1 y c2 g2 rfl rfl rfl) rfl rfl rfl⟩
def flatGt (G : List Gt) : List Value := G.flatMap Gt.cells
theorem flatG_snoc (G : List Gt) (g : Gt) : flatGt (G ++ [g]) = flatGt G ++ g.cells := by simp [flatGt]
theorem gistOf_any (w : World) (r : Rx) (b n : Nat) (A : Option Addr) (c base : Nat) (G : List Gt) (v : Value) (h : NdAt w r b) (ho : w.ownsRow base 85 3 (.slice A n c) n (flatGt G)) (hn : n = G.length) (hg : ∀ g ∈ G, g.k ≤ 2001) (hv : r.gist b G = some v) :
  Calls Tryz.prog 81 #[ptr b, .slice A n c] w fun e w' => e = .returned v ∧ Below w.heap.size w w' := by
 have two : ∀ x y : Gt, G = [x, y] → 2 ≤ r.kind ∧ r.kind ≤ 3 → v = g2V b x.k x.p x.s y.k y.p y.s → Calls Tryz.prog 81 #[ptr b, .slice A n c] w fun e w' => e = .returned v ∧ Below w.heap.size w w' := by
  intro x y hG hr hv2
  subst hG
  have h2 : n = 2 := hn
  subst h2
  obtain ⟨g, rfl, hc, _, _⟩ := own_cells ho (by omega)
  have hx := hg x (by simp)
  have hy := hg y (by simp)
  have hg2 : G2 w g x.k x.p x.s y.k y.p y.s := ⟨hc 0 _ rfl, hc 1 _ rfl, hc 2 _ rfl, hc 3 _ rfl, hc 4 _ rfl, hc 5 _ rfl⟩
  rw [hv2]
  obtain ⟨xk, xp, xs⟩ := x
  obtain ⟨yk, yp, ys⟩ := y
  cases xp with
  | none => exact gist_none w r b g 2 c xk yk xs ys yp h hr (by omega) (by omega) hx hy hg2
  | some a =>
   cases yp with
   | none => exact gist_one w r b g 2 c xk yk xs ys a h hr (by omega) (by omega) hx hy hg2
   | some a' => exact gist_both w r b g 2 c xk yk xs ys a a' h hr (by omega) (by omega) hx hy hg2
 cases r with
 | set s => simp only [Rx.gist, Option.some.injEq] at hv; rw [← hv]; exact gist_set w s b _ h
 | empty => simp only [Rx.gist, Option.some.injEq] at hv; rw [← hv]; exact gist_empty w b _ h
 | star x =>
  match G, hv, hn, hg, ho with
  | [y], hv, hn, hg, ho =>
   simp only [Rx.gist, Option.some.injEq] at hv
   have h2 : n = 1 := hn
   subst h2
   obtain ⟨g, rfl, hc, _, _⟩ := own_cells ho (by omega)
   rw [← hv]
   exact gist_star w x b g 1 c y.k y.p h (by omega) (by omega) (hc 0 _ rfl) (hc 1 _ rfl)
  | [], hv, _, _, _ => simp [Rx.gist] at hv
  | _ :: _ :: _, hv, _, _, _ => simp [Rx.gist] at hv
 | cat x y =>
  match G, hv, two with
  | [g1, g2], hv, two => simp only [Rx.gist, Option.some.injEq] at hv; exact two g1 g2 rfl ⟨by simp [Rx.kind], by simp [Rx.kind]⟩ hv.symm
  | [], hv, _ => simp [Rx.gist] at hv
  | [_], hv, _ => simp [Rx.gist] at hv
  | _ :: _ :: _ :: _, hv, _ => simp [Rx.gist] at hv
 | or x y =>
  match G, hv, two with
  | [g1, g2], hv, two => simp only [Rx.gist, Option.some.injEq] at hv; exact two g1 g2 rfl ⟨by simp [Rx.kind], by simp [Rx.kind]⟩ hv.symm
  | [], hv, _ => simp [Rx.gist] at hv
  | [_], hv, _ => simp [Rx.gist] at hv
  | _ :: _ :: _ :: _, hv, _ => simp [Rx.gist] at hv
end Go.Proofs.YtejdfpieblkapaaGreatDoor
