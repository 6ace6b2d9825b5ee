/- Carried from another seat. -/
import Derived.Test.YtejdfpieblkapaaGreatDoorM1
import Derived.RangeFuncNested
import Derived.RangeFuncBound
import Derived.RangeFuncCalls
import Derived.RangeFuncLeaves
import Derived.RangeFuncBox
import Derived.RangeFuncWrites
import Derived.Shelf.Abstract
import Derived.Shelf.RegionOpen
import Derived.OwnWalkIn
import Derived.TacticsInMore
import Derived.LoopNIn
import Derived.LoopIn
import Derived.Maps.AppendAt
namespace Go.Proofs.YtejdfpieblkapaaGreatDoor
open Go.RowKit


abbrev wsV (s : Ws) : Value := .agg #[.int .u64 s.a, .int .u64 s.b, .int .u64 s.c, .int .u64 s.d]
def NewNd (r : Rx) (w : World) (e : Ending) (w' : World) : Prop := ∃ nb, e = .returned (ptr nb) ∧ NdAt w' r nb ∧ Below w.heap.size w w'

theorem lt_of_cell' {w : World} {a : Addr} {v : Value} (h : w.cell? a = some v) : a.block < w.heap.size := by
 unfold World.cell? at h
 rcases Nat.lt_or_ge a.block w.heap.size with h' | h'
 ·exact h'
 ·simp [Array.getElem?_eq_none h'] at h
set_option maxRecDepth 100000 in
set_option maxHeartbeats 2000000 in
theorem made_any (kind : Int) (nul : Bool) (g n : Nat) (bk f : Nat → Nat) (w : World) (hn : n ≤ 2) (hc : ∀ k, k < n → w.cell? ⟨g, k, none⟩ = some (ptr (bk k))) (hf : ∀ k, k < n → w.cell? ⟨bk k, 6, none⟩ = some (.int .i64 (f k))) (hsz : ∀ k, k < n → f k ≤ 1000000000) :
  Calls Tryz.prog 142 #[.int .i64 kind, .bool nul, .slice (some ⟨g, 0, none⟩) n n] w fun e w' => e = .returned (ptr w.heap.size) ∧ Below w.heap.size w w' ∧ w'.heap[w.heap.size]? = some (.cells #[.int .i64 kind, .int .u64 0, .int .u64 0, .int .u64 0, .int .u64 0, .slice (some ⟨g, 0, none⟩) n n, .int .i64 ((1 + ((List.range n).map f).sum : Nat)), .bool nul] 128 (0, 0)) := by
 have HC := Lib.hid hc; have HF := Lib.hid hf; have HZ := Lib.hid hsz
 clear hc hf hsz
 go_enter Tryz.func142, Tryz.ntmps142
 go_wp2_with fail
 go_loopw [17] (fun i wr => ∃ k S : Nat, k ≤ n ∧ i = .int .i64 k ∧ S ≤ 1 + k * 1000000000 ∧ Hid (S = 1 + ((List.range k).map f).sum) ∧ Hid (Below w.heap.size w wr) ∧ Hid (wr.heap[w.heap.size]? = some (.cells #[.int .i64 kind, .int .u64 0, .int .u64 0, .int .u64 0, .int .u64 0, .slice (some ⟨g, 0, none⟩) n n, .int .i64 S, .bool nul] 128 (0, 0)))) (fun i _ => n - (intOf i).toNat)
 case atStart => exact ⟨0, 1, Nat.zero_le _, rfl, by omega, rfl, (Below.refl _ w).alloc (Nat.le_refl _) _, heap_alloc_new w _⟩
 case round =>
  obtain ⟨k, S, hk, rfl, hS, HS, HB, HN⟩ := hrel
  by_cases hlt : k < n
  ·have hki : (k : Int) < n := by omega
   have hk0 : (0 : Int) ≤ k := by omega
   have x1 := HC.out k hlt
   have x2 := HF.out k hlt
   have hfk := HZ.out k hlt
   have hgl : g < w.heap.size := lt_of_cell' x1
   have hbl : bk k < w.heap.size := lt_of_cell' x2
   have c1 : wr.cell? ⟨g, k, none⟩ = some (ptr (bk k)) := (HB.out.cell hgl).trans x1
   have c2 : wr.cell? ⟨bk k, 6, none⟩ = some (.int .i64 (f k)) := (HB.out.cell hbl).trans x2
   have c3 : wr.cell? ⟨w.heap.size, 6, none⟩ = some (.int .i64 S) := by rw [Lib.cell_of_heap HN.out]; rfl
   have f3 : wr.frozen? ⟨w.heap.size, 6, none⟩ = false := Lib.frozen_of_heap HN.out 6
   obtain ⟨fk, hfk'⟩ : ∃ fk, fk = f k := ⟨_, rfl⟩
   rw [← hfk'] at c2 hfk
   have HFK := Lib.hid hfk'
   generalize bk k = bb at c1 c2 hbl
   clear x1 x2 hfk'
   have hmin : min (fk : Int) (IntKind.i64.wrap (9223372036854775807 - (S : Int))) = (fk : Int) := by rw [IntWalk.i64_in _ (by omega)]; omega
   go_wp2_with fail
   go_region
   go_wp2
   go_roundw
   case rel =>
    refine ⟨k + 1, S + fk, by omega, by go_num, by omega, ?_, ?_, ?_⟩
    ·show S + fk = _
     rw [HS.out, List.range_succ, List.map_append, List.sum_append, HFK.out]; simp; omega
    ·exact (HB.out.trans ((Kb.setCell wr ⟨w.heap.size, 6, none⟩ _).below HB.out.size (fun i hi => by rw [hi]; exact Nat.le_refl _))).drew
    ·show (wr.setCell ⟨w.heap.size, 6, none⟩ (.int .i64 ((S : Int) + fk))).heap[w.heap.size]? = _
     rw [set_heap wr _ 6 _ _ _ _ HN.out]
     simp
   case measure => simp [intOf]; omega
  ·obtain rfl : k = n := by omega
   go_wp2
   go_ret
   exact ⟨rfl, HB.out, by rw [HN.out, HS.out]⟩

theorem nd_size {w : World} {r : Rx} {b : Nat} (h : NdAt w r b) : w.cell? ⟨b, 6, none⟩ = some (.int .i64 r.size) ∧ w.cell? ⟨b, 7, none⟩ = some (.bool r.nul) ∧ b < w.heap.size := by
 obtain ⟨A, n, hb, _⟩ := h.blk
 unfold NdB at hb
 exact ⟨by rw [Lib.cell_of_heap hb]; rfl, by rw [Lib.cell_of_heap hb]; rfl, lt_of_heap hb⟩
end Go.Proofs.YtejdfpieblkapaaGreatDoor

/- Carried from another seat. -/
namespace Go.Proofs.YtejdfpieblkapaaGreatDoor
open Lib renaming hid → zh
open Go.RowKit Go.Shelf


attribute [local go_sem] Oper.semAt_some

theorem eql_nil_left (w : World) (a : Addr) : (binOp .eql 68 (.pointer none) (.pointer (some a))).run Tryz.prog w = .ok (.bool false) w := by
 have h : ∀ d : Nat, (Op.equalIn (d + 1) 68 (.pointer none) (.pointer (some a))).run Tryz.prog w = .ok false w := fun d => by
  simp [Op.equalIn, run_underlying Tryz.underlying68]
 simp only [binOp]
 simp [Op.equal, Op.maxDepth, h 9999]
def RowAt (w : World) (A : Option Addr) (bs : List Nat) : Prop := bs = [] ∨ ∃ g cs fz, A = some ⟨g, 0, none⟩ ∧ w.heap[g]? = some (.cells cs 68 fz) ∧ ∀ (i b : Nat), bs[i]? = some b → cs[i]? = some (ptr b)

theorem RowAt.get {w : World} {A : Option Addr} {bs : List Nat} (h : RowAt w A bs) {i b : Nat} (hi : bs[i]? = some b) : ∃ g, A = some ⟨g, 0, none⟩ ∧ w.cell? ⟨g, i, none⟩ = some (ptr b) ∧ g < w.heap.size := by
 rcases h with rfl | ⟨g, cs, fz, rfl, hg, hc⟩
 ·simp at hi
 ·exact ⟨g, rfl, by rw [Lib.cell_of_heap hg]; exact hc i b hi, lt_of_heap hg⟩

set_option maxRecDepth 100000 in
set_option maxHeartbeats 1000000 in
theorem index_no (A : Option Addr) (n c : Nat) (bs : List Nat) (w : World) (hr : RowAt w A bs) (hl : bs.length = n) (hc : n ≤ c) (hn : n ≤ 1000000) :
  Calls Tryz.prog 78 #[.slice A n c, .pointer none] w fun e w' => e = .returned (.int .i64 (-1)) ∧ w' = w := by
 have HR := zh hr; have HL := zh hl; clear hr hl
 go_enter Tryz.func78, Tryz.ntmps78
 go_wp2_with fail
 go_loopw [8] (fun i wr => ∃ k : Nat, k ≤ n ∧ i = .int .i64 k ∧ wr = w) (fun i _ => n - (intOf i).toNat)
 case atStart => exact ⟨0, Nat.zero_le _, rfl, rfl⟩
 case round =>
  obtain ⟨k, hk, rfl, rfl⟩ := hrel
  by_cases hlt : k < n
  ·obtain ⟨b, hb⟩ : ∃ b, bs[k]? = some b := ⟨_, List.getElem?_eq_getElem (by rw [HL.out]; exact hlt)⟩
   obtain ⟨g, rfl, hcell, _⟩ := HR.out.get hb
   have hki : (k : Int) < n := by omega
   have hk0 : (0 : Int) ≤ k := by omega
   clear hb
   have heq : ∀ w' : World, (binOp .eql 68 (.pointer none) (ptr b)).run Tryz.prog w' = .ok (.bool false) w' := fun w' => eql_nil_left w' _
   go_wp2
   go_roundw
   case rel => exact ⟨k + 1, by omega, by go_num, by trivial⟩
   case measure => simp [intOf]; omega
  ·obtain rfl : k = n := by omega
   go_wp2
   go_ret
   exact ⟨rfl, rfl⟩
theorem contains_no (A : Option Addr) (n c : Nat) (bs : List Nat) (w : World) (hr : RowAt w A bs) (hl : bs.length = n) (hc : n ≤ c) (hn : n ≤ 1000000) :
  Calls Tryz.prog 47 #[.slice A n c, .pointer none] w fun e w' => e = .returned (.bool false) ∧ w' = w := by
 have HI := zh (index_no A n c bs w hr hl hc hn)
 clear hr hl
 go_enter Tryz.func47, Tryz.ntmps47
 go_wp2_with fail
 refine HI.out.mono ?_
 rintro e w' ⟨rfl, rfl⟩
 go_wp2
 go_ret
 exact ⟨rfl, rfl⟩

def KeepO (Bn : Nat) (A B : World) : Prop := ∀ (k : Nat) (c : Array Value) (t : TypeId) (fz : Nat × Nat), k ≠ Bn → A.heap[k]? = some (.cells c t fz) → B.heap[k]? = some (.cells c t fz)
theorem KeepO.refl (Bn : Nat) (A : World) : KeepO Bn A A := fun _ _ _ _ _ h => h
theorem KeepO.trans {Bn : Nat} {A B C : World} (h : KeepO Bn A B) (h' : KeepO Bn B C) : KeepO Bn A C := fun k c t fz hn e => h' k c t fz hn (h k c t fz hn e)
theorem KeepO.put (Bn : Nat) (W : World) (l : Nat) (o o' : Obj) (ho : W.heap[l]? = some o) (hc : o.isCells = false) : KeepO Bn W (W.putObj l o') := by
 intro k c t fz _ h
 have hk : k ≠ l := by
  rintro rfl
  rw [ho] at h
  injection h with h
  subst h
  simp [Obj.isCells] at hc
 exact (World.putObj_heap_other hk).trans h

abbrev Yl (bs : List Nat) (rs : List Rx) := { x : Nat × Nat × Rx // bs[x.1]? = some x.2.1 ∧ rs[x.1]? = some x.2.2 }

set_option maxRecDepth 100000 in
set_option maxHeartbeats 2000000 in
theorem bw_in (F : Fence) (n : Nat) (hf : F.fn 174) (hro : F.round = none) (hn : 1 ≤ n) (l Bs Bn m cap : Nat) (A : Option Addr) (bs : List Nat) (rs : List Rx) (hm : bs.length = m) (hrl : rs.length = m) (_hmc : m ≤ cap) (hm2 : m ≤ 1000000) (J Jx : List (Yl bs rs) → World → Prop)
  (hY : ∀ pre x W, J pre W → pre.length < m → YieldAt F (n - 1) Tryz.prog l #[.int .i64 x.1.1, ptr x.1.2.1] W fun e W' =>
   (e = .returned (.bool true) ∧ J (pre ++ [x]) W' ∧ KeepO Bn W W') ∨ (e = .returned (.bool false) ∧ Jx (pre ++ [x]) W'))
  (W : World) (hBs : W.heap[Bs]? = some (.cells #[.slice A m cap] 24 (0, 0))) (hBn : Bs ≠ Bn) (hrow : RowAt W A bs) (hg : ∀ a, A = some a → a.block ≠ Bn) (h0 : J [] W) :
  CallsIn F n Tryz.prog 174 #[.func (.yield l) #[] #[], .pointer (some ⟨Bs, 0, none⟩)] W fun e W' => (∃ v, e = .returned v) ∧
   ((∃ ys : List (Yl bs rs), ys.map (fun x => x.1.2.2) = rs.reverse ∧ J ys W') ∨ (∃ pre, True ∧ Jx pre W')) := by
 have hcb : W.cell? ⟨Bs, 0, none⟩ = some (.slice A m cap) := by rw [Lib.cell_of_heap hBs]; rfl
 have HY := zh hY; have HB := zh hBs; have HR := zh hrow; have H0 := zh h0; have HG := zh hg; have HM := zh hm; have HRL := zh hrl
 clear hY hBs hrow h0 hg hm hrl
 refine callsIn_of_wp Tryz.func174 rfl hf ?_ hro
 simp only [Tryz.ntmps174, List.size_toArray, List.length_cons, List.length_nil, Nat.reduceAdd, Nat.reduceSub, Array.replicate_succ, Array.replicate_zero, List.push_toArray, List.append_toArray, List.nil_append, List.cons_append]
 gi_wp2
 gi_loopw [3] (fun i wr => ∃ (j : Nat) (pre : List (Yl bs rs)), j ≤ m ∧ i = .int .i64 ((j : Int) - 1) ∧ Hid (J pre wr ∧ pre.map (fun x => x.1.2.2) = (rs.drop j).reverse ∧ pre.length + j = m) ∧ Hid (KeepO Bn W wr)) (fun i _ => (intOf i + 1).toNat)
 case atStart => exact ⟨m, [], Nat.le_refl _, rfl, ⟨H0.out, by rw [List.drop_of_length_le (by rw [HRL.out]; exact Nat.le_refl _)]; rfl, by simp⟩, KeepO.refl _ _⟩
 case round =>
  obtain ⟨j, pre, hj, rfl, HJ, HK⟩ := hrel
  rcases j with _ | j
  ·have hz : ((0 : Nat) : Int) - 1 = -1 := rfl
   rw [hz]
   gi_wp2
   go_end0
   exact ⟨⟨_, rfl⟩, .inl ⟨_, HJ.out.2.1, HJ.out.1⟩⟩
  ·have hz : ((j + 1 : Nat) : Int) - 1 = (j : Int) := by omega
   rw [hz]
   obtain ⟨b, hb⟩ : ∃ b, bs[j]? = some b := ⟨_, List.getElem?_eq_getElem (by rw [HM.out]; omega)⟩
   obtain ⟨rj, hrj⟩ : ∃ rj, rs[j]? = some rj := ⟨_, List.getElem?_eq_getElem (by rw [HRL.out]; omega)⟩
   have hrow' : ∃ g, A = some ⟨g, 0, none⟩ ∧ wr.cell? ⟨g, j, none⟩ = some (ptr b) := by
    rcases HR.out with h | ⟨g, cs, fz, hA, hg, hc⟩
    ·rw [h] at hb; simp at hb
    ·exact ⟨g, hA, by rw [Lib.cell_of_heap (HK.out _ _ _ _ (HG.out _ hA) hg)]; exact hc j b hb⟩
   obtain ⟨g, rfl, hcell⟩ := hrow'
   have hcb' : wr.cell? ⟨Bs, 0, none⟩ = some (.slice (some ⟨g, 0, none⟩) m cap) := by rw [Lib.cell_of_heap (HK.out _ _ _ _ hBn HB.out)]; rfl
   obtain ⟨fn, tmps, assign, body, hy, hR⟩ := HY.out pre ⟨(j, b, rj), hb, hrj⟩ wr HJ.out.1 (by have := HJ.out.2.2; omega)
   dsimp only at hy
   have hji : (j : Int) < m := by omega
   have hj0 : (0 : Int) ≤ j := by omega
   have HRR := zh hR
   clear hR hcb
   gi_wp2
   refine HRR.out.mono ?_
   rintro e W3 (⟨rfl, hJ3, hk3⟩ | ⟨rfl, hJx3⟩)
   ·have HJ3 := zh hJ3; have HK3 := zh hk3
    clear hJ3 hk3 hy
    gi_wp2
    go_roundw
    case rel =>
     refine ⟨j, pre ++ [⟨(j, b, rj), hb, hrj⟩], by omega, by go_num, ⟨HJ3.out, ?_, ?_⟩, HK.out.trans HK3.out⟩
     ·rw [List.map_append, HJ.out.2.1]
      have h1 : rs.drop j = rj :: rs.drop (j + 1) := by
       obtain ⟨hl, hgg⟩ := List.getElem?_eq_some_iff.1 hrj
       rw [← hgg]; exact List.drop_eq_getElem_cons hl
      rw [h1, List.reverse_cons]; rfl
     ·have := HJ.out.2.2
      rw [List.length_append, List.length_singleton]; omega
    case measure => simp [intOf]
   ·have HJx3 := zh hJx3
    clear hJx3 hy
    gi_wp2
    refine bodyPost_ret (results_none rfl _ _ _) rfl ?_
    exact ⟨⟨_, rfl⟩, .inr ⟨_, trivial, HJx3.out⟩⟩

theorem bw_stops (F : Fence) (n : Nat) (hf : F.fn 174) (hro : F.round = none) (hn : 1 ≤ n) (Bs Bn m cap : Nat) (A : Option Addr) (bs : List Nat) (rs : List Rx) (hm : bs.length = m) (hrl : rs.length = m) (hmc : m ≤ cap) (hm2 : m ≤ 1000000) (w : World) (hBs : w.heap[Bs]? = some (.cells #[.slice A m cap] 24 (0, 0))) (hBn : Bs ≠ Bn) (hrow : RowAt w A bs) (hg : ∀ a, A = some a → a.block ≠ Bn) :
  SeqStopsK F n Tryz.prog 174 #[.pointer (some ⟨Bs, 0, none⟩)] (fun x : Yl bs rs => #[Value.int .i64 x.1.1, ptr x.1.2.1]) (KeepO Bn) (fun ys => ys.map (fun x => x.1.2.2) = rs.reverse) (fun _ => True) m w := fun l J Jx W hW hJ _ hY h0 =>
 bw_in F n hf hro hn l Bs Bn m cap A bs rs hm hrl hmc hm2 J Jx hY W ((hW.block Bs (lt_of_heap hBs)).trans hBs) hBn (by
  rcases hrow with h | ⟨g, cs, fz, hA, hg', hc⟩
  ·exact .inl h
  ·exact .inr ⟨g, cs, fz, hA, (hW.block g (lt_of_heap hg')).trans hg', hc⟩) hg h0
theorem bw_fn (A : Option Addr) (m c : Nat) (w : World) : Calls Tryz.prog 157 #[.slice A m c] w fun e w' => e = .returned (.func (.func 174) #[] #[.pointer (some ⟨w.heap.size, 0, none⟩)]) ∧ w' = w.alloc (.cells #[.slice A m c] 24) := by
 go_enter Tryz.func157, Tryz.ntmps157
 go_wp2
 go_ret
 exact ⟨rfl, rfl⟩
end Go.Proofs.YtejdfpieblkapaaGreatDoor

/- Carried from another seat. -/
namespace Go.Proofs.YtejdfpieblkapaaGreatDoor
open Lib renaming hid → zh
open Go.RowKit Go.Shelf


attribute [local go_sem] Oper.semAt_some

def nest (mk : Rx → Rx → Rx) (r0 : Rx) : List Rx → Rx
 | [] => r0
 | [a] => a
 | a :: b :: l => mk a (nest mk r0 (b :: l))
theorem nest_snoc (mk : Rx → Rx → Rx) (r0 z : Rx) (l : List Rx) : nest mk r0 (l ++ [z]) = l.foldr mk z := by
 induction l with
 | nil => rfl
 | cons a l ih =>
  cases l with
  | nil => rfl
  | cons b l =>
   show mk a (nest mk r0 (b :: l ++ [z])) = _
   rw [ih]; rfl
def foldb (mk : Rx → Rx → Rx) (z : Rx) (l : List Rx) : Rx := l.foldl (fun acc r => mk r acc) z
theorem foldb_rev (mk : Rx → Rx → Rx) (z : Rx) (l : List Rx) : foldb mk z l.reverse = l.foldr mk z := by
 unfold foldb; rw [List.foldl_reverse]
theorem foldb_snoc (mk : Rx → Rx → Rx) (z a : Rx) (l : List Rx) : foldb mk z (l ++ [a]) = mk a (foldb mk z l) := by
 unfold foldb; rw [List.foldl_append]; rfl

def NdsAt (w : World) (rs : List Rx) (bs : List Nat) : Prop := rs.length = bs.length ∧ ∀ (i : Nat) (r : Rx) (b : Nat), rs[i]? = some r → bs[i]? = some b → NdAt w r b
theorem NdsAt.keep {w w' : World} {rs : List Rx} {bs : List Nat} (h : NdsAt w rs bs) (hk : KN w w') : NdsAt w' rs bs := ⟨h.1, fun i r b h1 h2 => (h.2 i r b h1 h2).keep hk⟩

theorem keep_far {B b : Nat} {W W' : World} {row : Option Nat} {t : TypeId} {v : Value} (hg : W.grownBy W' row) (hr : ∀ r, row = some r → B ≤ r ∧ ∃ o : Obj, W.heap[r]? = some o ∧ o.isCells = false) (h : Boxed W b t v) : Boxed W' b t v := by
 have h' : W.heap[b]? = some (.cells #[v] t (0, 0)) := h
 refine (hg.block b (lt_of_heap h') ?_).trans h'
 intro e
 obtain ⟨_, o, ho, hc⟩ := hr b e.symm
 rw [h'] at ho
 injection ho with ho
 subst ho
 simp [Obj.isCells] at hc
theorem keeps_below {W W' : World} (h : Below W.heap.size W W') : KeepsOthers W W' := ⟨h.size, fun k _ hk _ => (h.block k (Array.getElem?_eq_some_iff.1 hk).1).trans hk⟩
theorem keepO_set {Bn : Nat} {W W' : World} (h : Below W.heap.size W W') (v : Value) : KeepO Bn W (W'.setCell ⟨Bn, 0, none⟩ v) := fun k c t fz hk he => by
 rw [Below.heap_setCell W' ⟨Bn, 0, none⟩ v k hk]
 exact (h.block k (lt_of_heap he)).trans he
def NdAv (w : World) (B : Nat) : Rx → Nat → Prop
 | .set s, b => NdB w (.set s) b (.slice none 0 0) ∧ b ≠ B
 | .empty, b => NdB w .empty b (.slice none 0 0) ∧ b ≠ B
 | .cat x y, b => ∃ g bx bY, NdB w (.cat x y) b (.slice (some ⟨g, 0, none⟩) 2 2) ∧ w.heap[g]? = some (.cells #[ptr bx, ptr bY] 68 (0, 0)) ∧ NdAv w B x bx ∧ NdAv w B y bY ∧ b ≠ B ∧ g ≠ B
 | .or x y, b => ∃ g bx bY, NdB w (.or x y) b (.slice (some ⟨g, 0, none⟩) 2 2) ∧ w.heap[g]? = some (.cells #[ptr bx, ptr bY] 68 (0, 0)) ∧ NdAv w B x bx ∧ NdAv w B y bY ∧ b ≠ B ∧ g ≠ B
 | .star x, b => ∃ g bx, NdB w (.star x) b (.slice (some ⟨g, 0, none⟩) 1 1) ∧ w.heap[g]? = some (.cells #[ptr bx] 68 (0, 0)) ∧ NdAv w B x bx ∧ b ≠ B ∧ g ≠ B
theorem keepO_far {B C : Nat} {W W' : World} {row : Option Nat} (hg : W.grownBy W' row) (hr : ∀ r, row = some r → B ≤ r ∧ ∃ o : Obj, W.heap[r]? = some o ∧ o.isCells = false) : KeepO C W W' := by
 intro i cs t fz _ hi
 refine (hg.block i (lt_of_heap hi) ?_).trans hi
 intro e
 obtain ⟨_, o, ho, hc⟩ := hr i e.symm
 rw [hi] at ho
 injection ho with ho
 subst ho
 simp [Obj.isCells] at hc

def NewTwo (r : Rx) (bx bY : Nat) (w : World) (e : Ending) (w' : World) : Prop := ∃ nb g, e = .returned (ptr nb) ∧ w.heap.size ≤ nb ∧ w.heap.size ≤ g ∧ NdB w' r nb (.slice (some ⟨g, 0, none⟩) 2 2) ∧ w'.heap[g]? = some (.cells #[ptr bx, ptr bY] 68 (0, 0)) ∧ Below w.heap.size w w'
theorem made_two' (kind : Int) (nul : Bool) (x y : Rx) (bx bY g : Nat) (w : World) (hg : w.heap[g]? = some (.cells #[ptr bx, ptr bY] 68 (0, 0))) (hx : NdAt w x bx) (hy : NdAt w y bY) (hs : x.size + y.size ≤ 1000000000) (r : Rx) (hr : (r = .cat x y ∧ kind = 2 ∧ nul = (x.nul && y.nul)) ∨ (r = .or x y ∧ kind = 3 ∧ nul = (x.nul || y.nul))) :
  Calls Tryz.prog 142 #[.int .i64 kind, .bool nul, .slice (some ⟨g, 0, none⟩) 2 2] w fun e w' => e = .returned (ptr w.heap.size) ∧ NdB w' r w.heap.size (.slice (some ⟨g, 0, none⟩) 2 2) ∧ Below w.heap.size w w' := by
 obtain ⟨sx, _, _⟩ := nd_size hx
 obtain ⟨sy, _, _⟩ := nd_size hy
 refine (made_any kind nul g 2 (fun k => if k = 0 then bx else bY) (fun k => if k = 0 then x.size else y.size) w (by omega) ?_ ?_ ?_).mono ?_
 ·intro k hk
  rcases (show k = 0 ∨ k = 1 by omega) with rfl | rfl
  ·rw [Lib.cell_of_heap hg]; rfl
  ·rw [Lib.cell_of_heap hg]; rfl
 ·intro k hk
  rcases (show k = 0 ∨ k = 1 by omega) with rfl | rfl
  ·exact sx
  ·exact sy
 ·intro k hk
  rcases (show k = 0 ∨ k = 1 by omega) with rfl | rfl
  ·show x.size ≤ _; omega
  ·show y.size ≤ _; omega
 ·rintro e w' ⟨rfl, hb, hh⟩
  refine ⟨rfl, ?_, hb⟩
  have hsum : ((List.range 2).map (fun k => if k = 0 then x.size else y.size)).sum = x.size + y.size := by
   simp [List.range_succ]
  rw [hsum] at hh
  rcases hr with ⟨rfl, rfl, rfl⟩ | ⟨rfl, rfl, rfl⟩
  ·unfold NdB
   rw [hh]
   simp [Rx.kind, Rx.ws, Rx.size, Rx.nul]; omega
  ·unfold NdB
   rw [hh]
   simp [Rx.kind, Rx.ws, Rx.size, Rx.nul]; omega
set_option maxHeartbeats 1000000 in
theorem cat1x_any (x y : Rx) (bx bY : Nat) (w : World) (hx : NdAt w x bx) (hy : NdAt w y bY) (hs : x.size + y.size ≤ 1000000000) : Calls Tryz.prog 156 #[ptr bx, ptr bY] w (NewTwo (.cat x y) bx bY w) := by
 have hb : Below w.heap.size w (w.alloc (.cells #[ptr bx, ptr bY] 68)) := (Below.refl _ w).alloc (Nat.le_refl _) _
 have hg := heap_alloc_new w (.cells #[ptr bx, ptr bY] 68)
 have HM := zh (made_two' 2 (x.nul && y.nul) x y bx bY w.heap.size _ hg (hx.keep (KN.of_below hb)) (hy.keep (KN.of_below hb)) hs (.cat x y) (.inl ⟨rfl, rfl, rfl⟩))
 have HB := zh hb; have HG := zh hg
 obtain ⟨_, nx, lx⟩ := nd_size hx
 obtain ⟨_, ny, ly⟩ := nd_size hy
 clear hx hy hb hg
 cases hnx : x.nul <;> rw [hnx] at nx HM <;> (go_enter Tryz.func156, Tryz.ntmps156) <;> go_wp2_with fail
 all_goals
  refine HM.out.mono ?_
  rintro e w' ⟨rfl, h2, h3⟩
  have HN := zh (show NewTwo (.cat x y) bx bY w (.returned (ptr (w.alloc (.cells #[ptr bx, ptr bY] 68)).heap.size)) w' from ⟨_, w.heap.size, rfl, by simp, Nat.le_refl _, h2, (h3.block _ (lt_of_heap HG.out)).trans HG.out, below_tr HB.out h3 HB.out.size⟩)
  rw [show (w.alloc (.cells #[ptr bx, ptr bY] 68)).heap.size = w.heap.size + 1 by simp] at HN
  clear h2 h3
  go_wp2
  go_ret
  exact HN.out
set_option maxHeartbeats 1000000 in
theorem or1x_any (x y : Rx) (bx bY : Nat) (w : World) (hx : NdAt w x bx) (hy : NdAt w y bY) (hs : x.size + y.size ≤ 1000000000) : Calls Tryz.prog 141 #[ptr bx, ptr bY] w (NewTwo (.or x y) bx bY w) := by
 have hb : Below w.heap.size w (w.alloc (.cells #[ptr bx, ptr bY] 68)) := (Below.refl _ w).alloc (Nat.le_refl _) _
 have hg := heap_alloc_new w (.cells #[ptr bx, ptr bY] 68)
 have HM := zh (made_two' 3 (x.nul || y.nul) x y bx bY w.heap.size _ hg (hx.keep (KN.of_below hb)) (hy.keep (KN.of_below hb)) hs (.or x y) (.inr ⟨rfl, rfl, rfl⟩))
 have HB := zh hb; have HG := zh hg
 obtain ⟨_, nx, lx⟩ := nd_size hx
 obtain ⟨_, ny, ly⟩ := nd_size hy
 clear hx hy hb hg
 cases hnx : x.nul <;> rw [hnx] at nx HM <;> (go_enter Tryz.func141, Tryz.ntmps141) <;> go_wp2_with fail
 all_goals
  refine HM.out.mono ?_
  rintro e w' ⟨rfl, h2, h3⟩
  have HN := zh (show NewTwo (.or x y) bx bY w (.returned (ptr (w.alloc (.cells #[ptr bx, ptr bY] 68)).heap.size)) w' from ⟨_, w.heap.size, rfl, by simp, Nat.le_refl _, h2, (h3.block _ (lt_of_heap HG.out)).trans HG.out, below_tr HB.out h3 HB.out.size⟩)
  rw [show (w.alloc (.cells #[ptr bx, ptr bY] 68)).heap.size = w.heap.size + 1 by simp] at HN
  clear h2 h3
  go_wp2
  go_ret
  exact HN.out

end Go.Proofs.YtejdfpieblkapaaGreatDoor

/- Carried from another seat. -/
namespace Go.Proofs.YtejdfpieblkapaaGreatDoor
open Go.RowKit


theorem RowAt.keep {w w' : World} {A : Option Addr} {bs : List Nat} (h : RowAt w A bs) (hb : Below w.heap.size w w') : RowAt w' A bs := by
 rcases h with h | ⟨g, cs, fz, hA, hg, hc⟩
 ·exact .inl h
 ·exact .inr ⟨g, cs, fz, hA, (hb.block g (lt_of_heap hg)).trans hg, hc⟩
def Rx.none' : Rx := .set ⟨0, 0, 0, 0⟩
def Ws.bit (s : Ws) (n : Nat) : Ws := match n / 64 with
 | 0 => { s with a := s.a ||| 2 ^ (n % 64) }
 | 1 => { s with b := s.b ||| 2 ^ (n % 64) }
 | 2 => { s with c := s.c ||| 2 ^ (n % 64) }
 | _ => { s with d := s.d ||| 2 ^ (n % 64) }
def btw (f : Nat) : Nat → Ws
 | 0 => ⟨0, 0, 0, 0⟩
 | k + 1 => (btw f k).bit (f + k)
def Ws.hasN (s : Ws) (n : Nat) : Bool := s.word (n / 64) / 2 ^ (n % 64) % 2 == 1
theorem testBit_eq (x k : Nat) : (x / 2 ^ k % 2 == 1) = x.testBit k := by
 rw [Nat.testBit_eq_decide_div_mod_eq]; rfl
theorem Ws.hasN_bit (s : Ws) (n m : Nat) (hn : n < 256) (hm : m < 256) : (s.bit n).hasN m = (s.hasN m || decide (m = n)) := by
 have key : ∀ x : Nat, (x ||| 2 ^ (n % 64)).testBit (m % 64) = (x.testBit (m % 64) || decide (n % 64 = m % 64)) := fun x => by
  rw [Nat.testBit_or, Nat.testBit_two_pow]
 unfold Ws.hasN
 rw [testBit_eq, testBit_eq]
 rcases (show n / 64 = 0 ∨ n / 64 = 1 ∨ n / 64 = 2 ∨ n / 64 = 3 by omega) with h | h | h | h <;> rcases (show m / 64 = 0 ∨ m / 64 = 1 ∨ m / 64 = 2 ∨ m / 64 = 3 by omega) with h' | h' | h' | h' <;> simp only [Ws.bit, Ws.word, h, h', key] <;> (first | (congr 1; simp; omega) | (have : decide (m = n) = false := decide_eq_false (by omega); rw [this, Bool.or_false]))
theorem btw_has (f k m : Nat) (hk : f + k ≤ 256) (hm : m < 256) : (btw f k).hasN m = decide (f ≤ m ∧ m < f + k) := by
 induction k with
 | zero =>
  have : ¬ (f ≤ m ∧ m < f + 0) := by omega
  rw [decide_eq_false this]
  show (⟨0, 0, 0, 0⟩ : Ws).hasN m = false
  unfold Ws.hasN Ws.word
  rcases (show m / 64 = 0 ∨ m / 64 = 1 ∨ m / 64 = 2 ∨ m / 64 = 3 by omega) with h | h | h | h <;> rw [h] <;> simp
 | succ k ih =>
  show ((btw f k).bit (f + k)).hasN m = _
  rw [Ws.hasN_bit _ _ _ (by omega) hm, ih (by omega)]
  rw [Bool.eq_iff_iff]
  simp
  omega
end Go.Proofs.YtejdfpieblkapaaGreatDoor

/- Carried from another seat. -/
namespace Go.Proofs.YtejdfpieblkapaaGreatDoor
open Go.RowKit


def Ws.cells (s : Ws) : Array Value := #[.int .u64 s.a, .int .u64 s.b, .int .u64 s.c, .int .u64 s.d]

structure Ws.Ok (s : Ws) : Prop where
 a : s.a < 2 ^ 64
 b : s.b < 2 ^ 64
 c : s.c < 2 ^ 64
 d : s.d < 2 ^ 64
theorem Ws.Ok.word {s : Ws} (h : s.Ok) (n : Nat) : s.word n < 2 ^ 64 := by
 rcases n with _ | _ | _ | n
 ·exact h.a
 ·exact h.b
 ·exact h.c
 ·exact h.d
theorem Ws.Ok.bit {s : Ws} (h : s.Ok) (n : Nat) : (s.bit n).Ok := by
 have hp : 2 ^ (n % 64) < 2 ^ 64 := Nat.pow_lt_pow_right (by omega) (by omega)
 unfold Ws.bit
 split
 ·exact ⟨Nat.or_lt_two_pow h.a hp, h.b, h.c, h.d⟩
 ·exact ⟨h.a, Nat.or_lt_two_pow h.b hp, h.c, h.d⟩
 ·exact ⟨h.a, h.b, Nat.or_lt_two_pow h.c hp, h.d⟩
 ·exact ⟨h.a, h.b, h.c, Nat.or_lt_two_pow h.d hp⟩
theorem btw_ok (f k : Nat) : (btw f k).Ok := by
 induction k with
 | zero => exact (show (⟨0, 0, 0, 0⟩ : Ws).Ok from ⟨by decide, by decide, by decide, by decide⟩)
 | succ k ih => exact ih.bit _
theorem or64 (x k : Nat) (hx : x < 2 ^ 64) (hk : k < 64) : bits .or .u64 (x : Int) (IntKind.u64.wrap ((2 : Int) ^ k)) = ((x ||| 2 ^ k : Nat) : Int) := by
 have hp : 2 ^ k < 2 ^ 64 := Nat.pow_lt_pow_right (by omega) hk
 have h2 : ((2 : Int) ^ k) = ((2 ^ k : Nat) : Int) := by norm_cast
 have hw : ∀ y : Nat, y < 2 ^ 64 → IntKind.u64.wrap (y : Int) = (y : Int) := fun y hy => by
  rw [IntKind.wrap_u64]; omega
 rw [h2, hw _ hp]
 have hv : ∀ y : Nat, y < 2 ^ 64 → (BitVec.ofInt 64 (y : Int)).toNat = y := fun y hy => by
  rw [BitVec.ofInt_natCast, BitVec.toNat_ofNat]; exact Nat.mod_eq_of_lt hy
 show IntKind.u64.wrap ((BitVec.ofInt 64 (x : Int) ||| BitVec.ofInt 64 ((2 ^ k : Nat) : Int)).toNat : Int) = _
 rw [BitVec.toNat_or, hv x hx, hv _ hp]
 exact hw _ (Nat.or_lt_two_pow hx hp)

set_option maxRecDepth 100000 in
set_option maxHeartbeats 2000000 in
theorem between_any (f l : Nat) (w : World) (hf : f < 256) (hl : l < 256) :
  Calls Tryz.prog 134 #[.int .u8 f, .int .u8 l] w fun e w' => e = .returned (wsV (btw f (l + 1 - f))) ∧ Below w.heap.size w w' := by
 go_enter Tryz.func134, Tryz.ntmps134
 go_wp2_with fail
 go_loopw [6] (fun i wr => ∃ k : Nat, f + k ≤ 256 ∧ (k = 0 ∨ f + k ≤ l + 1) ∧ i = .int .i64 ((f + k : Nat) : Int) ∧ Hid (Below w.heap.size w wr) ∧ Hid (wr.heap[w.heap.size]? = some (.cells (Ws.cells ⟨0, 0, 0, 0⟩) 100 (0, 0))) ∧ Hid (wr.heap[w.heap.size + 1]? = some (.cells (btw f k).cells 100 (0, 0)))) (fun i _ => (256 - intOf i).toNat)
 case atStart =>
  refine ⟨0, by omega, .inl rfl, rfl, ((Below.refl _ w).alloc (Nat.le_refl _) _).alloc (by simp) _, ?_, ?_⟩
  ·exact (Below.heap_alloc _ _ _ (by simp)).trans (heap_alloc_new w _)
  ·have := heap_alloc_new (w.alloc (.cells #[.int .u64 0, .int .u64 0, .int .u64 0, .int .u64 0] 100)) (.cells #[.int .u64 0, .int .u64 0, .int .u64 0, .int .u64 0] 100)
   rw [show (w.alloc (.cells #[.int .u64 0, .int .u64 0, .int .u64 0, .int .u64 0] 100)).heap.size = w.heap.size + 1 by simp] at this
   exact this
 case round =>
  obtain ⟨k, hk, hk2, rfl, HB, HA, HC⟩ := hrel
  obtain ⟨n, hn⟩ : ∃ n, n = f + k := ⟨_, rfl⟩
  rw [← hn]
  by_cases hlt : n ≤ l
  ·have hni : (n : Int) ≤ l := by omega
   have hn256 : n < 256 := by omega
   generalize hs : btw f k = s at HC
   have f1 : wr.frozen? ⟨w.heap.size + 1, n / 64, none⟩ = false := Lib.frozen_of_heap HC.out (n / 64)
   have HS := Lib.hid hs; have HN := Lib.hid hn
   clear hs hn
   have c1 : wr.cell? ⟨w.heap.size + 1, n / 64, none⟩ = some (.int .u64 (s.word (n / 64))) := by
    rw [Lib.cell_of_heap HC.out]
    rcases (show n / 64 = 0 ∨ n / 64 = 1 ∨ n / 64 = 2 ∨ n / 64 = 3 by omega) with h | h | h | h <;> rw [h] <;> rfl
   generalize hW : s.word (n / 64) = W at c1
   have HW := Lib.hid hW
   clear hW
   go_wp2_with fail
   go_region
   go_wp2
   have hok := btw_ok f k
   rw [HS.out] at hok
   have hWl : W < 2 ^ 64 := by rw [← HW.out]; exact hok.word _
   rw [or64 W (n % 64) hWl (by omega)]
   refine ⟨⟨k + 1, by have := HN.out; omega, .inr (by have := HN.out; omega), by have := HN.out; simp; omega, ?_, ?_, ?_⟩, by simp [intOf]; omega⟩
   ·exact (HB.out.trans ((Kb.setCell wr ⟨w.heap.size + 1, n / 64, none⟩ _).below HB.out.size (fun i hi => by rw [hi]; show w.heap.size ≤ w.heap.size + 1; omega))).drew
   ·show (wr.setCell ⟨w.heap.size + 1, n / 64, none⟩ _).heap[w.heap.size]? = _
    rw [Below.heap_setCell _ _ _ _ (by show w.heap.size ≠ w.heap.size + 1; omega)]
    exact HA.out
   ·show (wr.setCell ⟨w.heap.size + 1, n / 64, none⟩ _).heap[w.heap.size + 1]? = _
    rw [set_heap wr _ (n / 64) _ _ _ _ HC.out]
    show _ = some (Obj.cells ((btw f k).bit (f + k)).cells 100 (0, 0))
    rw [HS.out, ← HN.out]
    have h64 : n / 64 = 0 ∨ n / 64 = 1 ∨ n / 64 = 2 ∨ n / 64 = 3 := by omega
    have hw := HW.out
    rcases h64 with h | h | h | h <;> rw [h] at hw <;> simp only [Ws.bit, h, Ws.cells, ← hw, Ws.word] <;> rfl
  ·have hni : ¬ (n : Int) ≤ l := by omega
   have hkk : k = l + 1 - f := by omega
   generalize hs : btw f k = s at HC
   have HS := Lib.hid hs; have HKK := Lib.hid hkk
   have c0 : wr.cell? ⟨w.heap.size + 1, 0, none⟩ = some (.int .u64 s.a) := by rw [Lib.cell_of_heap HC.out]; rfl
   have c1 : wr.cell? ⟨w.heap.size + 1, 1, none⟩ = some (.int .u64 s.b) := by rw [Lib.cell_of_heap HC.out]; rfl
   have c2 : wr.cell? ⟨w.heap.size + 1, 2, none⟩ = some (.int .u64 s.c) := by rw [Lib.cell_of_heap HC.out]; rfl
   have c3 : wr.cell? ⟨w.heap.size + 1, 3, none⟩ = some (.int .u64 s.d) := by rw [Lib.cell_of_heap HC.out]; rfl
   have z0 : wr.cell? ⟨w.heap.size, 0, none⟩ = some (.int .u64 0) := by rw [Lib.cell_of_heap HA.out]; rfl
   have z1 : wr.cell? ⟨w.heap.size, 1, none⟩ = some (.int .u64 0) := by rw [Lib.cell_of_heap HA.out]; rfl
   have z2 : wr.cell? ⟨w.heap.size, 2, none⟩ = some (.int .u64 0) := by rw [Lib.cell_of_heap HA.out]; rfl
   have z3 : wr.cell? ⟨w.heap.size, 3, none⟩ = some (.int .u64 0) := by rw [Lib.cell_of_heap HA.out]; rfl
   have f0 : wr.frozen? ⟨w.heap.size, 0, none⟩ = false := Lib.frozen_of_heap HA.out 0
   have f1 : wr.frozen? ⟨w.heap.size, 1, none⟩ = false := Lib.frozen_of_heap HA.out 1
   have f2 : wr.frozen? ⟨w.heap.size, 2, none⟩ = false := Lib.frozen_of_heap HA.out 2
   have f3 : wr.frozen? ⟨w.heap.size, 3, none⟩ = false := Lib.frozen_of_heap HA.out 3
   clear hn hkk hk hk2 hlt hs
   go_wp2_with fail
   have hh : ((((wr.setCell ⟨w.heap.size, 0, none⟩ (.int .u64 s.a)).setCell ⟨w.heap.size, 1, none⟩ (.int .u64 s.b)).setCell ⟨w.heap.size, 2, none⟩ (.int .u64 s.c)).setCell ⟨w.heap.size, 3, none⟩ (.int .u64 s.d)).heap[w.heap.size]? = some (.cells s.cells 100 (0, 0)) := by
    rw [set_heap _ _ 3 _ _ _ _ (set_heap _ _ 2 _ _ _ _ (set_heap _ _ 1 _ _ _ _ (set_heap _ _ 0 _ _ _ _ HA.out)))]
    rfl
   refine bodyPost_ret (results_cell_row rfl _ _ w.heap.size 100 s.cells (0, 0) _ rfl hh Tryz.underlying100 rfl (by kernel_rfl)) rfl ?_
   refine ⟨by rw [← HKK.out, HS.out]; rfl, ?_⟩
   have hk : ∀ (w0 : World) (j : Nat) (v : Value), Below w.heap.size w w0 → Below w.heap.size w (w0.setCell ⟨w.heap.size, j, none⟩ v) := fun w0 j v h => h.trans ((Kb.setCell w0 ⟨w.heap.size, j, none⟩ v).below h.size (fun i hi => by rw [hi]; exact Nat.le_refl _))
   exact hk _ _ _ (hk _ _ _ (hk _ _ _ (hk _ _ _ HB.out)))
end Go.Proofs.YtejdfpieblkapaaGreatDoor
