/- Carried from another seat. -/
import Derived.Test.YtejdfpieblkapaaGreatDoorM57
import Derived.Great.BuildSlice
import Derived.Deep.AppendLies
import Derived.Deep.RegionHeld3
namespace Go.Proofs.YtejdfpieblkapaaGreatDoor
open Go.RowKit Go.Shelf

theorem Tryz.info36' : (Tryz.prog.info? 36).map (fun i => (i.zero, i.size, i.bytes)) = some (some (.agg (RfC 0 noB (.slice none 0 0)).toArray), 258, 288) := by kernel_rfl
theorem built30 (k : Int) (A : Option Addr) (n m : Nat) : Tryz.prog.built 36 [(0, .int .i64 k), (2, .slice A n m)] = some (RfC k noB (.slice A n m)).toArray := by kernel_rfl
theorem built30e : Tryz.prog.built 36 [(0, .int .i64 1)] = some (RfC 1 noB (.slice none 0 0)).toArray := by kernel_rfl
theorem built30z : Tryz.prog.built 36 [] = some (RfC 0 noB (.slice none 0 0)).toArray := by kernel_rfl
theorem fill1 (cs : List Value) (hl : cs.length = 258) (arr : Array Value) (ha : arr.size = 258) : Instr.fill (fun i => some (i * 258, 258)) arr [(0, .agg cs.toArray)] = some cs.toArray := by
 obtain ⟨r, hr, hs, hk⟩ := Great.fill_dense (s := 258) (by decide) [.agg cs.toArray] 0 arr (fun v hv => by rcases List.mem_singleton.1 hv with rfl; simpa [Value.cells] using hl) (by simp [ha])
 rw [show [((0 : Nat), Value.agg cs.toArray)] = (([Value.agg cs.toArray].zipIdx 0).map fun x => (x.2, x.1)) from rfl, hr]
 congr 1
 apply Array.ext_getElem?
 intro k
 rw [hk k]
 by_cases h : k < 258
 ·rw [if_pos (by simp; omega), show k / 258 = 0 by omega, show k % 258 = k by omega]
  simp [Value.cells]
 ·rw [if_neg (by simp; omega), Array.getElem?_eq_none (by omega), Array.getElem?_eq_none (by simp; omega)]
theorem fill2 (cx cy : List Value) (hx : cx.length = 258) (hy : cy.length = 258) (arr : Array Value) (ha : arr.size = 516) : Instr.fill (fun i => some (i * 258, 258)) arr [(0, .agg cx.toArray), (1, .agg cy.toArray)] = some (cx ++ cy).toArray := by
 obtain ⟨r, hr, hs, hk⟩ := Great.fill_dense (s := 258) (by decide) [.agg cx.toArray, .agg cy.toArray] 0 arr (fun v hv => by
  rcases List.mem_cons.1 hv with rfl | hv
  ·simpa [Value.cells] using hx
  ·rcases List.mem_singleton.1 hv with rfl; simpa [Value.cells] using hy) (by simp [ha])
 rw [show [((0 : Nat), Value.agg cx.toArray), (1, Value.agg cy.toArray)] = (([Value.agg cx.toArray, Value.agg cy.toArray].zipIdx 0).map fun x => (x.2, x.1)) from rfl, hr]
 congr 1
 apply Array.ext_getElem?
 intro k
 have e : (cx ++ cy).toArray[k]? = (cx ++ cy)[k]? := by simp
 rw [hk k, e]
 by_cases h : k < 258
 ·rw [if_pos (by simp; omega), show k / 258 = 0 by omega, show k % 258 = k by omega, List.getElem?_append_left (by omega)]
  simp [Value.cells]
 ·by_cases h2 : k < 516
  ·rw [if_pos (by simp; omega), show k / 258 = 1 by omega, List.getElem?_append_right (by omega), show k % 258 = k - cx.length by omega]
   simp [Value.cells]
  ·rw [if_neg (by simp; omega), Array.getElem?_eq_none (by omega), List.getElem?_eq_none (by simp; omega)]
theorem parts0 (a : Act) : ((#[] : Array (Nat × Operand)).map fun (i, x) => (i, a.eval x)).toList = [] := by simp
theorem parts1 (a : Act) (n : Nat) (x : Operand) : ((#[(n, x)] : Array (Nat × Operand)).map fun (i, x) => (i, a.eval x)).toList = [(n, a.eval x)] := by simp
theorem parts2 (a : Act) (n m : Nat) (x y : Operand) : ((#[(n, x), (m, y)] : Array (Nat × Operand)).map fun (i, x) => (i, a.eval x)).toList = [(n, a.eval x), (m, a.eval y)] := by simp
section
variable {ops : Array Oper} {rest : List Oper} {o : Oper} {a : Act} {w : World} {Q : Exit → Act → World → Prop}
theorem bs1 (hg : o.guard = none) (x : Operand) (ho : o.op = .buildSlice 25 1 #[(0, x)]) (cs : List Value) (hx : a.eval x = .agg cs.toArray) (hl : cs.length = 258)
  (h : wpList Tryz.prog ops Q rest (a.put o.dst (.slice (some ⟨w.heap.size, 0, none⟩) 1 1)) (w.alloc (.cells cs.toArray 36))) : wpList Tryz.prog ops Q (o :: rest) a w := by
 obtain ⟨i0, hi0, hz0, hz1, hz2⟩ := info_parts Tryz.info36'
 refine wpList_buildSlice hg 25 36 1 _ ho cs.toArray i0 _ Tryz.underlying25 hi0 hz0 (by rw [hz1]; decide) (by rw [hz1]; decide) ?_ h
 rw [hz1, parts1, hx]
 exact fill1 cs hl _ (by simp)
theorem bs2 (hg : o.guard = none) (x y : Operand) (ho : o.op = .buildSlice 25 2 #[(0, x), (1, y)]) (cx cy : List Value) (hx : a.eval x = .agg cx.toArray) (hy : a.eval y = .agg cy.toArray) (hlx : cx.length = 258) (hly : cy.length = 258)
  (h : wpList Tryz.prog ops Q rest (a.put o.dst (.slice (some ⟨w.heap.size, 0, none⟩) 2 2)) (w.alloc (.cells (cx ++ cy).toArray 36))) : wpList Tryz.prog ops Q (o :: rest) a w := by
 obtain ⟨i0, hi0, hz0, hz1, hz2⟩ := info_parts Tryz.info36'
 refine wpList_buildSlice hg 25 36 2 _ ho (cx ++ cy).toArray i0 _ Tryz.underlying25 hi0 hz0 (by rw [hz1]; decide) (by rw [hz1]; decide) ?_ h
 rw [hz1, parts2, hx, hy]
 exact fill2 cx cy hlx hly _ (by simp)
theorem bd2 (hg : o.guard = none) (x y : Operand) (ho : o.op = .build 36 #[(0, x), (2, y)]) (k : Int) (A : Option Addr) (n m : Nat) (hx : a.eval x = .int .i64 k) (hy : a.eval y = .slice A n m)
  (h : wpList Tryz.prog ops Q rest (a.put o.dst (.agg (RfC k noB (.slice A n m)).toArray)) w) : wpList Tryz.prog ops Q (o :: rest) a w := by
 refine wpList_buildTo hg 36 _ ho _ rfl _ ?_ h
 rw [parts2, hx, hy]
 exact built30 k A n m
theorem bd1 (hg : o.guard = none) (x : Operand) (ho : o.op = .build 36 #[(0, x)]) (hx : a.eval x = .int .i64 1)
  (h : wpList Tryz.prog ops Q rest (a.put o.dst (.agg (RfC 1 noB (.slice none 0 0)).toArray)) w) : wpList Tryz.prog ops Q (o :: rest) a w := by
 refine wpList_buildTo hg 36 _ ho _ rfl _ ?_ h
 rw [parts1, hx]
 exact built30e
theorem bd0 (hg : o.guard = none) (ho : o.op = .build 36 #[])
  (h : wpList Tryz.prog ops Q rest (a.put o.dst (.agg (RfC 0 noB (.slice none 0 0)).toArray)) w) : wpList Tryz.prog ops Q (o :: rest) a w :=
 wpList_buildTo hg 36 _ ho _ rfl _ (by rw [parts0]; exact built30z) h
theorem st30 (hg : o.guard = none) (x y : Operand) (ho : o.op = .store 36 x y) (g : Nat) (cs old : List Value) (hx : a.eval x = .pointer (some ⟨g, 0, none⟩)) (hy : a.eval y = .agg cs.toArray) (hb : w.heap[g]? = some (.cells old.toArray 36 (0, 0))) (hold : old.length = 258) (hl : cs.length = 258) (h1 : ∀ v ∈ cs, v.oneCell' = true)
  (h : wpList Tryz.prog ops Q rest (a.put o.dst undef) (w.setRow g cs.toArray)) : wpList Tryz.prog ops Q (o :: rest) a w :=
 wpList_store_row hg 36 x y ho g cs.toArray hx hy 36 old.toArray hb (by rw [Tryz.info36]; simp [hl]) (by simp [hold, hl]) (all_oneCell_toArray h1) h
theorem ld30 (hg : o.guard = none) (x : Operand) (ho : o.op = .load 36 x) (g off : Nat) (cs : List Value) (hx : a.eval x = .pointer (some ⟨g, off, none⟩)) (hb : w.rangeAt g off cs) (hl : cs.length = 258)
  (h : wpList Tryz.prog ops Q rest (a.put o.dst (.agg cs.toArray)) w) : wpList Tryz.prog ops Q (o :: rest) a w :=
 wpList_load_mid hg 36 x ho g off hx cs _ hb Tryz.underlying36 rfl (by rw [hl]; exact Tryz.info36) h
end
theorem row_range {w : World} {g : Nat} {cs : List Value} {t : TypeId} {fz : Nat × Nat} (h : w.heap[g]? = some (.cells cs.toArray t fz)) : w.rangeAt g 0 cs := fun j v hv => by
 rw [Lib.cell_of_heap h]
 show cs.toArray[0 + j]? = _
 rw [List.getElem?_toArray, Nat.zero_add]; exact hv
theorem setRow_kb (w : World) (g : Nat) (cs : Array Value) : Kb (fun i => i = g) w (w.setRow g cs) := ⟨rfl, rfl, rfl, by simp, fun i _ hn => setRow_other w g i cs hn⟩
theorem results_nd {fn : Func} {p : Tmp} (h : fn.results = #[.cell p 36]) (tmps : Array Value) (w : World) (g : Nat) (cs : List Value) (fr : Nat × Nat) (hp : tmps.getD p undef = .pointer (some ⟨g, 0, none⟩)) (hg : w.heap[g]? = some (.cells cs.toArray 36 fr)) (hl : cs.length = 258) :
  (results fn tmps).run Tryz.prog w = .ok (.agg cs.toArray) w :=
 results_cell_row h tmps w g 36 cs.toArray fr _ hp hg Tryz.underlying36 rfl (by rw [Tryz.info36]; simp [hl])
end Go.Proofs.YtejdfpieblkapaaGreatDoor

/- Carried from another seat. -/
namespace Go.Proofs.YtejdfpieblkapaaGreatDoor
open Lib renaming hid → zh
open List renaming getElem_toArray → w1z, getElem_cons_zero → w2z, getElem_cons_succ → w3z, setIfInBounds_toArray → w4z, set_cons_zero → w5z, set_cons_succ → w6z
open Go.RowKit Go.Shelf

def PrTo (Q0 : Nat → Prop) (r : Rx) (w : World) (e : Ending) (w' : World) : Prop := ∃ cs : List Value, e = .returned (.agg cs.toArray) ∧ RfQ (fun i => Q0 i ∨ w.heap.size ≤ i) w' r cs ∧ Below w.heap.size w w'
def MkK (K : Int) (mk : Rx → Rx → Rx) : Prop := ∀ (Q : Nat → Prop) (w : World) (x y : Rx) (g : Nat) (cx cy : List Value), w.heap[g]? = some (.cells (cx ++ cy).toArray 36 (0, 0)) → Q g → RfQ Q w x cx → RfQ Q w y cy → RfQ Q w (mk x y) (RfC K noB (.slice (some ⟨g, 0, none⟩) 2 2))
theorem MkK.cat : MkK 2 .cat := fun _ _ _ _ g cx cy h hq hx hy => ⟨g, (0, 0), cx, cy, rfl, h, hq, hx, hy⟩
theorem MkK.or : MkK 3 .or := fun _ _ _ _ g cx cy h hq hx hy => ⟨g, (0, 0), cx, cy, rfl, h, hq, hx, hy⟩
theorem nest_ne (mk : Rx → Rx → Rx) (r0 r1 : Rx) : ∀ l : List Rx, l ≠ [] → nest mk r0 l = nest mk r1 l
 | [], h => absurd rfl h
 | [_], _ => rfl
 | a :: b :: l, _ => by show mk a (nest mk r0 (b :: l)) = mk a (nest mk r1 (b :: l)); rw [nest_ne mk r0 r1 (b :: l) (by simp)]
theorem alloc_res (w : World) : (w.alloc (.cells Tryz.zeroCells36 36)).heap[w.heap.size]? = some (.cells (RfC 0 noB (.slice none 0 0)).toArray 36 (0, 0)) := by
 have h1 := heap_alloc_new w (.cells Tryz.zeroCells36 36)
 rw [h1, zero30]; rfl
theorem noB_one (k : Int) (A : Option Addr) (n m : Nat) : ∀ v ∈ RfC k noB (.slice A n m), v.oneCell' = true := RfC_one k (fun _ => false) A n m
theorem noB_l (k : Int) (L : Value) : (RfC k noB L).length = 258 := RfC_len k L noB_len

section
variable {o : Oper} {a : Act} {w : World} {K : Act → World → Prop} {Q : Exit → Act → World → Prop}
theorem wp_bs2 (x y : Operand) (ho : o.op = .buildSlice 25 2 #[(0, x), (1, y)]) (cx cy : List Value) (hx : a.eval x = .agg cx.toArray) (hy : a.eval y = .agg cy.toArray) (hlx : cx.length = 258) (hly : cy.length = 258)
  (h : K (a.put o.dst (.slice (some ⟨w.heap.size, 0, none⟩) 2 2)) (w.alloc (.cells (cx ++ cy).toArray 36))) : o.wp Tryz.prog a w K Q := by
 obtain ⟨i0, hi0, hz0, hz1, hz2⟩ := info_parts Tryz.info36'
 refine wp_buildSlice 25 36 2 _ ho (cx ++ cy).toArray i0 _ Tryz.underlying25 hi0 hz0 (by rw [hz1]; decide) (by rw [hz1]; decide) ?_ h
 rw [hz1, parts2, hx, hy]
 exact fill2 cx cy hlx hly _ (by simp)
theorem wp_st30 (x y : Operand) (ho : o.op = .store 36 x y) (g : Nat) (cs old : List Value) (hx : a.eval x = .pointer (some ⟨g, 0, none⟩)) (hy : a.eval y = .agg cs.toArray) (hb : w.heap[g]? = some (.cells old.toArray 36 (0, 0))) (hold : old.length = 258) (hl : cs.length = 258) (h1 : ∀ v ∈ cs, v.oneCell' = true)
  (h : K (a.put o.dst undef) (w.setRow g cs.toArray)) : o.wp Tryz.prog a w K Q :=
 wp_store_row 36 x y ho g cs.toArray hx hy 36 old.toArray hb (by rw [Tryz.info36]; simp [hl]) (by simp [hold, hl]) (all_oneCell_toArray h1) h
theorem yields_bd2 {ops : Array Oper} {S : World → Prop} (hw : Region.wanted o (yielded ops a.tmps) = true) (x y : Operand) (ho : o.op = .build 36 #[(0, x), (2, y)]) (k : Int) (A : Option Addr) (n m : Nat) (hx : a.eval x = .int .i64 k) (hy : a.eval y = .slice A n m) : YieldsIf Tryz.prog ops S o (.agg (RfC k noB (.slice A n m)).toArray) a :=
 .inl ⟨hw, fun w _ => by
  unfold execOp
  have := run_build (P := Tryz.prog) w 36 ((#[(0, x), (2, y)] : Array (Nat × Operand)).map fun (i, x) => (i, a.eval x)) (RfC k noB (.slice A n m)).toArray (by rw [parts2, hx, hy]; exact built30 k A n m)
  simp only [ho, Sem.run_bind, this, Result.andThen_ok]
  rfl⟩
end

def PairOk (K : Int) (mk : Rx → Rx → Rx) (rs : List Rx) : Prop := ∀ (Q0 : Nat → Prop) (w : World) (A : Option Addr) (n cap : Nat) (cs : List Value), n = rs.length → n ≤ cap → RfR Q0 w rs cs → (rs ≠ [] → ∃ g o, A = some ⟨g, o, none⟩ ∧ g < w.heap.size ∧ w.rangeAt g o cs) → Calls Tryz.prog 119 #[.int .i64 K, .slice A n cap] w (PrTo Q0 (nest mk .empty rs) w)
set_option maxRecDepth 100000 in
set_option maxHeartbeats 1000000 in
theorem pair_step (K : Int) (mk : Rx → Rx → Rx) (hmk : MkK K mk) (r r2 : Rx) (rs : List Rx) (ih : PairOk K mk (r2 :: rs)) : PairOk K mk (r :: r2 :: rs) := by
 intro Q0 w A n cap cs hn hc hr hA
 obtain ⟨g, o, rfl, hg, hrg⟩ := hA (by simp)
 obtain ⟨a, b, rfl, ha, hb'⟩ := hr
 have hrb := range_right hrg
 rw [ha.len] at hrb
 have hra := range_left hrg
 obtain ⟨n1, hn1⟩ : ∃ n1, n = n1 + 1 := ⟨rs.length + 1, hn⟩
 have hn1' : n1 = (r2 :: rs).length := by have : n1 + 1 = rs.length + 1 + 1 := hn1.symm.trans hn; simpa using this
 obtain ⟨c1, hc1⟩ : ∃ c1, cap = c1 + 1 := ⟨cap - 1, by omega⟩
 have HR := zh (alloc_res w)
 have hb : Below w.heap.size w (w.alloc (.cells Tryz.zeroCells36 36)) := (Below.refl _ w).alloc (Nat.le_refl _) _
 have HRG := zh (show ∀ w', Below w.heap.size w w' → w'.rangeAt g o a from fun w' hb j v hj => (hb.cell (p := ⟨g, o + j, none⟩) hg).trans (hra j v hj))
 have HRB := zh (show ∀ w', Below w.heap.size w w' → w'.rangeAt g (o + 258) b from fun w' hb j v hj => (hb.cell (p := ⟨g, o + 258 + j, none⟩) hg).trans (hrb j v hj))
 have HB := zh hb
 have HA := zh ha; have HBr := zh hb'
 have IH := zh (fun w' (hw : Below w.heap.size w w') => ih (fun i => Q0 i ∧ i < w.heap.size) w' (some ⟨g, o + 258, none⟩) n1 c1 b hn1' (by omega) ((HBr.out.mono (fun i hi h => ⟨h, hi⟩)).keep (Kb.of_below (fun _ => False) hw) (fun _ _ _ h => h)) (fun _ => ⟨g, o + 258, rfl, Nat.lt_of_lt_of_le hg hw.size, HRB.out w' hw⟩))
 have HIN := zh (show (Tryz.prog.info? 36).map (·.size) = some a.length by rw [HA.out.len]; exact Tryz.info36)
 have hnge : 2 ≤ n := by rw [hn]; simp
 have hn0 : ¬ (n : Int) = 0 := by omega
 have hn1i : ¬ (n : Int) = 1 := by omega
 have hnd : ((n : Int) == 0) = false := by simp; omega
 have hnd1 : ((n : Int) == 1) = false := by simp; omega
 have hni : (0 : Int) < n := by omega
 have hnN : 0 < n := by omega
 have hni1 : (1 : Int) ≤ n := by omega
 have hnc : (n : Int) ≤ cap := by omega
 have hsl : ∀ w', (Instr.sliceAt 25 (.slice (some ⟨g, o, none⟩) n cap) (some (.int .i64 1)) none none).run Tryz.prog w' = .ok (.slice (some ⟨g, o + 258, none⟩) n1 c1) w' := fun w' => by
  have hso : (sizeOf (Tryz.prog.elem 25)).run Tryz.prog w' = .ok 258 w' := Tryz.sizeOf36 w'
  rw [run_sliceAt_slice (P := Tryz.prog) w' 25 _ _ _ _ Tryz.underlying25, run_slice_l (P := Tryz.prog) w' 25 _ n cap Tryz.underlying25 .i64 1 (by omega) (by omega), hso]
  show Result.ok (Value.slice (if cap = 1 then _ else _) (n - 1) (cap - 1)) w' = _
  rw [if_neg (by omega), hn1, hc1]
  simp [Addr.add]
 have HSL := zh hsl
 clear hrg hrb hra hA hb hb' ha hn1 hc1 hn hsl hn1'
 go_enter Tryz.func119, Tryz.ntmps119
 go_wp2_with fail
 refine wp_region_held_drew (S := fun w' => w'.rangeAt g o a) (by kernel_rfl) (HRG.out _ HB.out.drew) ?_
 intro hS
 change wpAnyH _ _ _ _ _ 11 (Array.replicate 11 false) _ (World.drew _)
 have HBD := zh HB.out.drew
 have HRD := zh ((((Below.refl _ (w.alloc (.cells Tryz.zeroCells36 36))).drew).block w.heap.size (show w.heap.size < (w.alloc (.cells Tryz.zeroCells36 36)).heap.size by simp)).trans HR.out)
 have HSD := zh (show (w.alloc (.cells Tryz.zeroCells36 36)).drew.heap.size = w.heap.size + 1 by show (w.alloc (.cells Tryz.zeroCells36 36)).heap.size = _; simp)
 generalize (w.alloc (.cells Tryz.zeroCells36 36)).drew = wd at HBD HRD HSD hS ⊢
 clear HB HR
 refine wpAnyH_take (i := 0) (v := ?_) rfl (by kernel_rfl) (by kernel_rfl) (by kernel_rfl) (fun _ _ _ h => h) (Or.inl ⟨by rfl, ?_⟩) hS ?_
 rotate_left 1
 ·intro wq _; go_simp; (try with_reducible rfl)
 try simp only [Act.put, w1z, w2z, w4z, w5z, w6z]
 refine wpAnyH_take (i := 1) (v := ?_) rfl (by kernel_rfl) (by kernel_rfl) (by kernel_rfl) (fun _ _ _ h => h) (Or.inl ⟨by rfl, ?_⟩) hS ?_
 rotate_left 1
 ·intro wq _; go_simp; (try with_reducible rfl)
 try simp only [Act.put, w1z, w2z, w3z, w4z, w5z, w6z]
 refine wpAnyH_take (i := 2) (v := ?_) rfl (by kernel_rfl) (by kernel_rfl) (by kernel_rfl) (fun _ _ _ h => h) (Or.inl ⟨by rfl, ?_⟩) hS ?_
 rotate_left 1
 ·intro wq _; go_simp; (try with_reducible rfl)
 try simp only [Act.put, w1z, w2z, w3z, w4z, w5z, w6z]
 refine wpAnyH_take (i := 3) rfl (by kernel_rfl) (by kernel_rfl) (by kernel_rfl) (fun _ _ _ h => h) (yieldsIf_load_mid (by rfl) 36 (.tmp 17) rfl g o rfl a _ (fun w' h => h) Tryz.underlying36 rfl HIN.out) hS ?_
 try simp only [Act.put, w1z, w2z, w3z, w4z, w5z, w6z]
 refine wpAnyH_take (i := 4) (v := ?_) rfl (by kernel_rfl) (by kernel_rfl) (by kernel_rfl) (fun _ _ _ h => h) (Or.inl ⟨by rfl, ?_⟩) hS ?_
 rotate_left 1
 ·intro wq _; go_simp; (try with_reducible rfl)
 try simp only [Act.put, w1z, w2z, w3z, w4z, w5z, w6z]
 refine wpAnyH_take (i := 5) (v := ?_) rfl (by kernel_rfl) (by kernel_rfl) (by kernel_rfl) (fun _ _ _ h => h) (Or.inl ⟨by rfl, ?_⟩) hS ?_
 rotate_left 1
 ·intro wq _; go_simp; (try with_reducible rfl)
 try simp only [Act.put, w1z, w2z, w3z, w4z, w5z, w6z]
 refine wpAnyH_take (i := 6) (v := .slice (some ⟨g, o + 258, none⟩) n1 c1) rfl (by kernel_rfl) (by kernel_rfl) (by kernel_rfl) (fun _ _ _ h => h) (Or.inl ⟨by rfl, ?_⟩) hS ?_
 ·intro wq _
  have := HSL.out wq
  go_simp
 try simp only [Act.put, w1z, w2z, w3z, w4z, w5z, w6z]
 refine wpAnyH_ready (rs := [7]) (by kernel_rfl) (by simp) ?_
 refine AllReadyH.cons rfl (fun K' hK => ?_) AllReadyH.nil
 go_simp
 go_at_call 119
 refine (IH.out _ HBD.out).mono ?_
 rintro e w3 ⟨c2, rfl, hq, hb3⟩
 have hB3 := HBD.out.trans (hb3.mono HBD.out.size)
 have HQ2 := zh hq; have HB3 := zh hB3
 have hres3 := (hb3.block w.heap.size (lt_of_heap HRD.out)).trans HRD.out
 have HR3 := zh hres3
 clear hq hb3 hB3 hres3
 refine hK.out _ _ (HRG.out _ HB3.out) (fun hS => ?_)
 clear hK K'
 try simp only [Act.put, w1z, w2z, w3z, w4z, w5z, w6z]
 refine wpAnyH_ready (rs := [8]) (by kernel_rfl) (by simp) ?_
 refine AllReadyH.cons rfl (fun K' hK => ?_) AllReadyH.nil
 rw [if_pos (by rfl)]
 refine wp_bs2 (.tmp 18) (.tmp 22) rfl a c2 rfl rfl HA.out.len HQ2.out.len ?_
 have HB4 := zh (HB3.out.alloc HB3.out.size (.cells (a ++ c2).toArray 36))
 refine hK.out _ _ (HRG.out _ HB4.out) (fun hS => ?_)
 clear hK K'
 try simp only [Act.put, w1z, w2z, w3z, w4z, w5z, w6z]
 refine wpAnyH_take (i := 9) rfl (by kernel_rfl) (by kernel_rfl) (by kernel_rfl) (fun _ _ _ h => h) (yields_bd2 (by rfl) (.tmp 15) (.tmp 23) rfl K (some ⟨w3.heap.size, 0, none⟩) 2 2 rfl rfl) hS ?_
 try simp only [Act.put, w1z, w2z, w3z, w4z, w5z, w6z]
 have hR4 := (Below.heap_alloc w3 (.cells (a ++ c2).toArray 36) w.heap.size (lt_of_heap HR3.out)).trans HR3.out
 have HR4 := zh hR4
 clear hR4
 refine wpAnyH_ready (rs := [10]) (by kernel_rfl) (by simp) ?_
 refine AllReadyH.cons rfl (fun K' hK => ?_) AllReadyH.nil
 rw [if_pos (by rfl)]
 refine wp_st30 (.tmp 4) (.tmp 24) rfl w.heap.size (RfC K noB (.slice (some ⟨w3.heap.size, 0, none⟩) 2 2)) _ rfl rfl HR4.out (noB_l _ _) (noB_l _ _) (noB_one _ _ _ _) ?_
 have hk5 := setRow_kb (w3.alloc (.cells (a ++ c2).toArray 36)) w.heap.size (RfC K noB (.slice (some ⟨w3.heap.size, 0, none⟩) 2 2)).toArray
 have HB5 := zh (HB4.out.trans (hk5.below HB4.out.size (fun i hi => by omega)))
 refine hK.out _ _ (HRG.out _ HB5.out) (fun hS => ?_)
 clear hK K'
 refine wpAnyH_done (by kernel_rfl) ?_ _
 have hfin : RfQ (fun i => Q0 i ∨ w.heap.size ≤ i) ((w3.alloc (.cells (a ++ c2).toArray 36)).setRow w.heap.size (RfC K noB (.slice (some ⟨w3.heap.size, 0, none⟩) 2 2)).toArray) (nest mk .empty (r :: r2 :: rs)) (RfC K noB (.slice (some ⟨w3.heap.size, 0, none⟩) 2 2)) := by
  have hg5 : ((w3.alloc (.cells (a ++ c2).toArray 36)).setRow w.heap.size (RfC K noB (.slice (some ⟨w3.heap.size, 0, none⟩) 2 2)).toArray).heap[w3.heap.size]? = some (.cells (a ++ c2).toArray 36 (0, 0)) := (setRow_other _ _ _ _ (by have := lt_of_heap HR3.out; omega)).trans (heap_alloc_new w3 _)
  have h35 : Kb (fun i => i = w.heap.size) w3 ((w3.alloc (.cells (a ++ c2).toArray 36)).setRow w.heap.size (RfC K noB (.slice (some ⟨w3.heap.size, 0, none⟩) 2 2)).toArray) := (Kb.of_below _ ((Below.refl _ w3).alloc (Nat.le_refl _) _)).trans hk5 (fun _ _ h => h)
  refine hmk _ _ _ _ w3.heap.size a c2 hg5 (.inr HB3.out.size) ((HA.out.keep (Kb.of_below (fun _ => False) HB5.out) (fun _ _ _ h => h)).mono (fun i _ h => .inl h)) ?_
  have hsz := HSD.out
  refine (HQ2.out.keep h35 (fun i _ h => ?_)).mono (fun i _ h => ?_)
  ·rcases h with ⟨_, h⟩ | h <;> omega
  ·rcases h with ⟨h, _⟩ | h
   ·exact .inl h
   ·right; omega
 have HF := zh hfin
 clear hfin
 go_wp2_with fail
 refine bodyPost_ret (results_nd rfl _ _ w.heap.size (RfC K noB (.slice (some ⟨w3.heap.size, 0, none⟩) 2 2)) (0, 0) rfl (setRow_heap _ _ _ _ 36 (0, 0) HR4.out) (noB_l _ _)) rfl ?_
 exact ⟨_, rfl, HF.out, HB5.out⟩

set_option maxRecDepth 100000 in
set_option maxHeartbeats 4000000 in
theorem pair_r (K : Int) (mk : Rx → Rx → Rx) (hmk : MkK K mk) : ∀ rs : List Rx, PairOk K mk rs
 | [] => by
  intro Q0 w A n cap cs hn hc hr hA
  have hn0 : n = 0 := hn
  subst hn0
  have HR := zh (alloc_res w)
  have hb : Below w.heap.size w (w.alloc (.cells Tryz.zeroCells36 36)) := (Below.refl _ w).alloc (Nat.le_refl _) _
  have hk := setRow_kb (w.alloc (.cells Tryz.zeroCells36 36)) w.heap.size (RfC 1 noB (.slice none 0 0)).toArray
  have HB := zh (hb.trans (hk.below (by simp) (fun i hi => by omega)))
  have HH := zh (setRow_heap (w.alloc (.cells Tryz.zeroCells36 36)) w.heap.size _ (RfC 1 noB (.slice none 0 0)).toArray 36 (0, 0) HR.out)
  clear hb hk hr hA hn
  go_enter Tryz.func119, Tryz.ntmps119
  go_wp2_with (first | (refine bd1 rfl _ rfl rfl ?_) | (refine st30 rfl _ _ rfl w.heap.size (RfC 1 noB (.slice none 0 0)) (RfC 0 noB (.slice none 0 0)) rfl rfl HR.out (noB_l _ _) (noB_l _ _) (noB_one _ _ _ _) ?_))
  refine bodyPost_ret (results_nd rfl _ _ w.heap.size (RfC 1 noB (.slice none 0 0)) (0, 0) rfl HH.out (noB_l _ _)) rfl ?_
  exact ⟨_, rfl, rfl, HB.out⟩
 | [r] => by
  intro Q0 w A n cap cs hn hc hr hA
  have hn0 : n = 1 := hn
  subst hn0
  obtain ⟨g, o, rfl, hg, hrg⟩ := hA (by simp)
  obtain ⟨a, b, rfl, ha, hb'⟩ := hr
  have hb0 : b = [] := hb'
  subst hb0
  rw [List.append_nil] at hrg
  have HR := zh (alloc_res w)
  have hb : Below w.heap.size w (w.alloc (.cells Tryz.zeroCells36 36)) := (Below.refl _ w).alloc (Nat.le_refl _) _
  have hk := setRow_kb (w.alloc (.cells Tryz.zeroCells36 36)) w.heap.size a.toArray
  have HRG := zh (show (w.alloc (.cells Tryz.zeroCells36 36)).rangeAt g o a from fun j v hj => (hb.cell (p := ⟨g, o + j, none⟩) hg).trans (hrg j v hj))
  have HB := zh (hb.trans (hk.below (by simp) (fun i hi => by omega)))
  have HH := zh (setRow_heap (w.alloc (.cells Tryz.zeroCells36 36)) w.heap.size _ a.toArray 36 (0, 0) HR.out)
  have HA := zh ha
  have hcap0 : (0 : Int) < 1 := by omega
  clear hb hk hA hn hb' hrg ha
  go_enter Tryz.func119, Tryz.ntmps119
  go_wp2_with (first | (refine ld30 rfl _ rfl g o a rfl HRG.out HA.out.len ?_) | (refine st30 rfl _ _ rfl w.heap.size a (RfC 0 noB (.slice none 0 0)) rfl rfl HR.out (noB_l _ _) HA.out.len HA.out.rf.one ?_))
  refine bodyPost_ret (results_nd rfl _ _ w.heap.size a (0, 0) rfl HH.out HA.out.len) rfl ?_
  exact ⟨a, rfl, (HA.out.keep (Kb.of_below (fun _ => False) HB.out) (fun _ _ _ h => h)).mono (fun i _ h => .inl h), HB.out⟩
 | r :: r2 :: rs => pair_step K mk hmk r r2 rs (pair_r K mk hmk (r2 :: rs))
end Go.Proofs.YtejdfpieblkapaaGreatDoor
