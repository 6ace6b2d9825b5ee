/- Carried from another seat. -/
import Derived.Test.YtejdfpieblkapaaGreatDoorM16
import Derived.RangeFuncNested
import Derived.RangeFuncBound
import Derived.RangeFuncCalls
import Derived.RangeFuncLeaves
import Derived.RangeFuncBox
import Derived.RangeFuncWrites
import Derived.Shelf.Abstract
import Derived.Shelf.RegionOpen
import Derived.OwnWalkIn
import Derived.TacticsInMore
import Derived.LoopNIn
import Derived.LoopIn
import Derived.Maps.AppendAt
namespace Go.Proofs.YtejdfpieblkapaaGreatDoor
open Go.RowKit Go.Shelf


attribute [local go_sem] Oper.semAt_some

theorem eql_nil_left (w : World) (a : Addr) : (binOp .eql 68 (.pointer none) (.pointer (some a))).run Tryz.prog w = .ok (.bool false) w := by
 have h : ∀ d : Nat, (Op.equalIn (d + 1) 68 (.pointer none) (.pointer (some a))).run Tryz.prog w = .ok false w := fun d => by
  simp [Op.equalIn, run_underlying Tryz.underlying68]
 simp only [binOp]
 simp [Op.equal, Op.maxDepth, h 9999]
def RowAt (w : World) (A : Option Addr) (bs : List Nat) : Prop := bs = [] ∨ ∃ g cs fz, A = some ⟨g, 0, none⟩ ∧ w.heap[g]? = some (.cells cs 68 fz) ∧ ∀ (i b : Nat), bs[i]? = some b → cs[i]? = some (ptr b)

theorem RowAt.get {w : World} {A : Option Addr} {bs : List Nat} (h : RowAt w A bs) {i b : Nat} (hi : bs[i]? = some b) : ∃ g, A = some ⟨g, 0, none⟩ ∧ w.cell? ⟨g, i, none⟩ = some (ptr b) ∧ g < w.heap.size := by
 rcases h with rfl | ⟨g, cs, fz, rfl, hg, hc⟩
 ·simp at hi
 ·exact ⟨g, rfl, by rw [Lib.cell_of_heap hg]; exact hc i b hi, lt_of_heap hg⟩

set_option maxRecDepth 100000 in
set_option maxHeartbeats 1000000 in
theorem index_no (A : Option Addr) (n c : Nat) (bs : List Nat) (w : World) (hr : RowAt w A bs) (hl : bs.length = n) (hc : n ≤ c) (hn : n ≤ 1000000) :
  Calls Tryz.prog 78 #[.slice A n c, .pointer none] w fun e w' => e = .returned (.int .i64 (-1)) ∧ w' = w := by
 have HR := Lib.hid hr; have HL := Lib.hid hl; clear hr hl
 go_enter Tryz.func78, Tryz.ntmps78
 go_wp2_with fail
 go_loopw [8] (fun i wr => ∃ k : Nat, k ≤ n ∧ i = .int .i64 k ∧ wr = w) (fun i _ => n - (intOf i).toNat)
 case atStart => exact ⟨0, Nat.zero_le _, rfl, rfl⟩
 case round =>
  obtain ⟨k, hk, rfl, rfl⟩ := hrel
  by_cases hlt : k < n
  ·obtain ⟨b, hb⟩ : ∃ b, bs[k]? = some b := ⟨_, List.getElem?_eq_getElem (by rw [HL.out]; exact hlt)⟩
   obtain ⟨g, rfl, hcell, _⟩ := HR.out.get hb
   have hki : (k : Int) < n := by omega
   have hk0 : (0 : Int) ≤ k := by omega
   clear hb
   have heq : ∀ w' : World, (binOp .eql 68 (.pointer none) (ptr b)).run Tryz.prog w' = .ok (.bool false) w' := fun w' => eql_nil_left w' _
   go_wp2
   go_roundw
   case rel => exact ⟨k + 1, by omega, by go_num, by trivial⟩
   case measure => simp [intOf]; omega
  ·obtain rfl : k = n := by omega
   go_wp2
   go_ret
   exact ⟨rfl, rfl⟩
theorem contains_no (A : Option Addr) (n c : Nat) (bs : List Nat) (w : World) (hr : RowAt w A bs) (hl : bs.length = n) (hc : n ≤ c) (hn : n ≤ 1000000) :
  Calls Tryz.prog 47 #[.slice A n c, .pointer none] w fun e w' => e = .returned (.bool false) ∧ w' = w := by
 have HI := Lib.hid (index_no A n c bs w hr hl hc hn)
 clear hr hl
 go_enter Tryz.func47, Tryz.ntmps47
 go_wp2_with fail
 refine HI.out.mono ?_
 rintro e w' ⟨rfl, rfl⟩
 go_wp2
 go_ret
 exact ⟨rfl, rfl⟩

def KeepO (Bn : Nat) (A B : World) : Prop := ∀ (k : Nat) (c : Array Value) (t : TypeId) (fz : Nat × Nat), k ≠ Bn → A.heap[k]? = some (.cells c t fz) → B.heap[k]? = some (.cells c t fz)
theorem KeepO.refl (Bn : Nat) (A : World) : KeepO Bn A A := fun _ _ _ _ _ h => h
theorem KeepO.trans {Bn : Nat} {A B C : World} (h : KeepO Bn A B) (h' : KeepO Bn B C) : KeepO Bn A C := fun k c t fz hn e => h' k c t fz hn (h k c t fz hn e)
theorem KeepO.put (Bn : Nat) (W : World) (l : Nat) (o o' : Obj) (ho : W.heap[l]? = some o) (hc : o.isCells = false) : KeepO Bn W (W.putObj l o') := by
 intro k c t fz _ h
 have hk : k ≠ l := by
  rintro rfl
  rw [ho] at h
  injection h with h
  subst h
  simp [Obj.isCells] at hc
 exact (World.putObj_heap_other hk).trans h

abbrev Yl (bs : List Nat) (rs : List Rx) := { x : Nat × Nat × Rx // bs[x.1]? = some x.2.1 ∧ rs[x.1]? = some x.2.2 }

set_option maxRecDepth 100000 in
set_option maxHeartbeats 2000000 in
theorem bw_in (F : Fence) (n : Nat) (hf : F.fn 174) (hro : F.round = none) (hn : 1 ≤ n) (l Bs Bn m cap : Nat) (A : Option Addr) (bs : List Nat) (rs : List Rx) (hm : bs.length = m) (hrl : rs.length = m) (_hmc : m ≤ cap) (hm2 : m ≤ 1000000) (J Jx : List (Yl bs rs) → World → Prop)
  (hY : ∀ pre x W, J pre W → pre.length < m → YieldAt F (n - 1) Tryz.prog l #[.int .i64 x.1.1, ptr x.1.2.1] W fun e W' =>
   (e = .returned (.bool true) ∧ J (pre ++ [x]) W' ∧ KeepO Bn W W') ∨ (e = .returned (.bool false) ∧ Jx (pre ++ [x]) W'))
  (W : World) (hBs : W.heap[Bs]? = some (.cells #[.slice A m cap] 24 (0, 0))) (hBn : Bs ≠ Bn) (hrow : RowAt W A bs) (hg : ∀ a, A = some a → a.block ≠ Bn) (h0 : J [] W) :
  CallsIn F n Tryz.prog 174 #[.func (.yield l) #[] #[], .pointer (some ⟨Bs, 0, none⟩)] W fun e W' => (∃ v, e = .returned v) ∧
   ((∃ ys : List (Yl bs rs), ys.map (fun x => x.1.2.2) = rs.reverse ∧ J ys W') ∨ (∃ pre, True ∧ Jx pre W')) := by
 have hcb : W.cell? ⟨Bs, 0, none⟩ = some (.slice A m cap) := by rw [Lib.cell_of_heap hBs]; rfl
 have HY := Lib.hid hY; have HB := Lib.hid hBs; have HR := Lib.hid hrow; have H0 := Lib.hid h0; have HG := Lib.hid hg; have HM := Lib.hid hm; have HRL := Lib.hid hrl
 clear hY hBs hrow h0 hg hm hrl
 refine callsIn_of_wp Tryz.func174 rfl hf ?_ hro
 simp only [Tryz.ntmps174, List.size_toArray, List.length_cons, List.length_nil, Nat.reduceAdd, Nat.reduceSub, Array.replicate_succ, Array.replicate_zero, List.push_toArray, List.append_toArray, List.nil_append, List.cons_append]
 gi_wp2
 gi_loopw [3] (fun i wr => ∃ (j : Nat) (pre : List (Yl bs rs)), j ≤ m ∧ i = .int .i64 ((j : Int) - 1) ∧ Hid (J pre wr ∧ pre.map (fun x => x.1.2.2) = (rs.drop j).reverse ∧ pre.length + j = m) ∧ Hid (KeepO Bn W wr)) (fun i _ => (intOf i + 1).toNat)
 case atStart => exact ⟨m, [], Nat.le_refl _, rfl, ⟨H0.out, by rw [List.drop_of_length_le (by rw [HRL.out]; exact Nat.le_refl _)]; rfl, by simp⟩, KeepO.refl _ _⟩
 case round =>
  obtain ⟨j, pre, hj, rfl, HJ, HK⟩ := hrel
  rcases j with _ | j
  ·have hz : ((0 : Nat) : Int) - 1 = -1 := rfl
   rw [hz]
   gi_wp2
   go_end0
   exact ⟨⟨_, rfl⟩, .inl ⟨_, HJ.out.2.1, HJ.out.1⟩⟩
  ·have hz : ((j + 1 : Nat) : Int) - 1 = (j : Int) := by omega
   rw [hz]
   obtain ⟨b, hb⟩ : ∃ b, bs[j]? = some b := ⟨_, List.getElem?_eq_getElem (by rw [HM.out]; omega)⟩
   obtain ⟨rj, hrj⟩ : ∃ rj, rs[j]? = some rj := ⟨_, List.getElem?_eq_getElem (by rw [HRL.out]; omega)⟩
   have hrow' : ∃ g, A = some ⟨g, 0, none⟩ ∧ wr.cell? ⟨g, j, none⟩ = some (ptr b) := by
    rcases HR.out with h | ⟨g, cs, fz, hA, hg, hc⟩
    ·rw [h] at hb; simp at hb
    ·exact ⟨g, hA, by rw [Lib.cell_of_heap (HK.out _ _ _ _ (HG.out _ hA) hg)]; exact hc j b hb⟩
   obtain ⟨g, rfl, hcell⟩ := hrow'
   have hcb' : wr.cell? ⟨Bs, 0, none⟩ = some (.slice (some ⟨g, 0, none⟩) m cap) := by rw [Lib.cell_of_heap (HK.out _ _ _ _ hBn HB.out)]; rfl
   obtain ⟨fn, tmps, assign, body, hy, hR⟩ := HY.out pre ⟨(j, b, rj), hb, hrj⟩ wr HJ.out.1 (by have := HJ.out.2.2; omega)
   dsimp only at hy
   have hji : (j : Int) < m := by omega
   have hj0 : (0 : Int) ≤ j := by omega
   have HRR := Lib.hid hR
   clear hR hcb
   gi_wp2
   refine HRR.out.mono ?_
   rintro e W3 (⟨rfl, hJ3, hk3⟩ | ⟨rfl, hJx3⟩)
   ·have HJ3 := Lib.hid hJ3; have HK3 := Lib.hid hk3
    clear hJ3 hk3 hy
    gi_wp2
    go_roundw
    case rel =>
     refine ⟨j, pre ++ [⟨(j, b, rj), hb, hrj⟩], by omega, by go_num, ⟨HJ3.out, ?_, ?_⟩, HK.out.trans HK3.out⟩
     ·rw [List.map_append, HJ.out.2.1]
      have h1 : rs.drop j = rj :: rs.drop (j + 1) := by
       obtain ⟨hl, hgg⟩ := List.getElem?_eq_some_iff.1 hrj
       rw [← hgg]; exact List.drop_eq_getElem_cons hl
      rw [h1, List.reverse_cons]; rfl
     ·have := HJ.out.2.2
      rw [List.length_append, List.length_singleton]; omega
    case measure => simp [intOf]
   ·have HJx3 := Lib.hid hJx3
    clear hJx3 hy
    gi_wp2
    refine bodyPost_ret (results_none rfl _ _ _) rfl ?_
    exact ⟨⟨_, rfl⟩, .inr ⟨_, trivial, HJx3.out⟩⟩

theorem bw_stops (F : Fence) (n : Nat) (hf : F.fn 174) (hro : F.round = none) (hn : 1 ≤ n) (Bs Bn m cap : Nat) (A : Option Addr) (bs : List Nat) (rs : List Rx) (hm : bs.length = m) (hrl : rs.length = m) (hmc : m ≤ cap) (hm2 : m ≤ 1000000) (w : World) (hBs : w.heap[Bs]? = some (.cells #[.slice A m cap] 24 (0, 0))) (hBn : Bs ≠ Bn) (hrow : RowAt w A bs) (hg : ∀ a, A = some a → a.block ≠ Bn) :
  SeqStopsK F n Tryz.prog 174 #[.pointer (some ⟨Bs, 0, none⟩)] (fun x : Yl bs rs => #[Value.int .i64 x.1.1, ptr x.1.2.1]) (KeepO Bn) (fun ys => ys.map (fun x => x.1.2.2) = rs.reverse) (fun _ => True) m w := fun l J Jx W hW hJ _ hY h0 =>
 bw_in F n hf hro hn l Bs Bn m cap A bs rs hm hrl hmc hm2 J Jx hY W ((hW.block Bs (lt_of_heap hBs)).trans hBs) hBn (by
  rcases hrow with h | ⟨g, cs, fz, hA, hg', hc⟩
  ·exact .inl h
  ·exact .inr ⟨g, cs, fz, hA, (hW.block g (lt_of_heap hg')).trans hg', hc⟩) hg h0
theorem bw_fn (A : Option Addr) (m c : Nat) (w : World) : Calls Tryz.prog 157 #[.slice A m c] w fun e w' => e = .returned (.func (.func 174) #[] #[.pointer (some ⟨w.heap.size, 0, none⟩)]) ∧ w' = w.alloc (.cells #[.slice A m c] 24) := by
 go_enter Tryz.func157, Tryz.ntmps157
 go_wp2
 go_ret
 exact ⟨rfl, rfl⟩
end Go.Proofs.YtejdfpieblkapaaGreatDoor
