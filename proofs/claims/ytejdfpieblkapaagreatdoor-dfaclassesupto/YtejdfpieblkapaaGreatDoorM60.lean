/- Carried from another seat. -/
import Derived.Test.YtejdfpieblkapaaGreatDoorM58
import Derived.Great.BuildSlice
import Derived.Deep.AppendLies
namespace Go.Proofs.YtejdfpieblkapaaGreatDoor
open Go.RowKit Go.Shelf

theorem Tryz.info36' : (Tryz.prog.info? 36).map (fun i => (i.zero, i.size, i.bytes)) = some (some (.agg (RfC 0 noB (.slice none 0 0)).toArray), 258, 288) := by kernel_rfl
theorem built30 (k : Int) (A : Option Addr) (n m : Nat) : Tryz.prog.built 36 [(0, .int .i64 k), (2, .slice A n m)] = some (RfC k noB (.slice A n m)).toArray := by kernel_rfl
theorem built30e : Tryz.prog.built 36 [(0, .int .i64 1)] = some (RfC 1 noB (.slice none 0 0)).toArray := by kernel_rfl
theorem built30z : Tryz.prog.built 36 [] = some (RfC 0 noB (.slice none 0 0)).toArray := by kernel_rfl
theorem fill1 (cs : List Value) (hl : cs.length = 258) (arr : Array Value) (ha : arr.size = 258) : Instr.fill (fun i => some (i * 258, 258)) arr [(0, .agg cs.toArray)] = some cs.toArray := by
 obtain ⟨r, hr, hs, hk⟩ := Great.fill_dense (s := 258) (by decide) [.agg cs.toArray] 0 arr (fun v hv => by rcases List.mem_singleton.1 hv with rfl; simpa [Value.cells] using hl) (by simp [ha])
 rw [show [((0 : Nat), Value.agg cs.toArray)] = (([Value.agg cs.toArray].zipIdx 0).map fun x => (x.2, x.1)) from rfl, hr]
 congr 1
 apply Array.ext_getElem?
 intro k
 rw [hk k]
 by_cases h : k < 258
 ·rw [if_pos (by simp; omega), show k / 258 = 0 by omega, show k % 258 = k by omega]
  simp [Value.cells]
 ·rw [if_neg (by simp; omega), Array.getElem?_eq_none (by omega), Array.getElem?_eq_none (by simp; omega)]
theorem fill2 (cx cy : List Value) (hx : cx.length = 258) (hy : cy.length = 258) (arr : Array Value) (ha : arr.size = 516) : Instr.fill (fun i => some (i * 258, 258)) arr [(0, .agg cx.toArray), (1, .agg cy.toArray)] = some (cx ++ cy).toArray := by
 obtain ⟨r, hr, hs, hk⟩ := Great.fill_dense (s := 258) (by decide) [.agg cx.toArray, .agg cy.toArray] 0 arr (fun v hv => by
  rcases List.mem_cons.1 hv with rfl | hv
  ·simpa [Value.cells] using hx
  ·rcases List.mem_singleton.1 hv with rfl; simpa [Value.cells] using hy) (by simp [ha])
 rw [show [((0 : Nat), Value.agg cx.toArray), (1, Value.agg cy.toArray)] = (([Value.agg cx.toArray, Value.agg cy.toArray].zipIdx 0).map fun x => (x.2, x.1)) from rfl, hr]
 congr 1
 apply Array.ext_getElem?
 intro k
 have e : (cx ++ cy).toArray[k]? = (cx ++ cy)[k]? := by simp
 rw [hk k, e]
 by_cases h : k < 258
 ·rw [if_pos (by simp; omega), show k / 258 = 0 by omega, show k % 258 = k by omega, List.getElem?_append_left (by omega)]
  simp [Value.cells]
 ·by_cases h2 : k < 516
  ·rw [if_pos (by simp; omega), show k / 258 = 1 by omega, List.getElem?_append_right (by omega), show k % 258 = k - cx.length by omega]
   simp [Value.cells]
  ·rw [if_neg (by simp; omega), Array.getElem?_eq_none (by omega), List.getElem?_eq_none (by simp; omega)]
theorem parts0 (a : Act) : ((#[] : Array (Nat × Operand)).map fun (i, x) => (i, a.eval x)).toList = [] := by simp
theorem parts1 (a : Act) (n : Nat) (x : Operand) : ((#[(n, x)] : Array (Nat × Operand)).map fun (i, x) => (i, a.eval x)).toList = [(n, a.eval x)] := by simp
theorem parts2 (a : Act) (n m : Nat) (x y : Operand) : ((#[(n, x), (m, y)] : Array (Nat × Operand)).map fun (i, x) => (i, a.eval x)).toList = [(n, a.eval x), (m, a.eval y)] := by simp
section
variable {ops : Array Oper} {rest : List Oper} {o : Oper} {a : Act} {w : World} {Q : Exit → Act → World → Prop}
theorem bs1 (hg : o.guard = none) (x : Operand) (ho : o.op = .buildSlice 25 1 #[(0, x)]) (cs : List Value) (hx : a.eval x = .agg cs.toArray) (hl : cs.length = 258)
  (h : wpList Tryz.prog ops Q rest (a.put o.dst (.slice (some ⟨w.heap.size, 0, none⟩) 1 1)) (w.alloc (.cells cs.toArray 36))) : wpList Tryz.prog ops Q (o :: rest) a w := by
 obtain ⟨i0, hi0, hz0, hz1, hz2⟩ := info_parts Tryz.info36'
 refine wpList_buildSlice hg 25 36 1 _ ho cs.toArray i0 _ Tryz.underlying25 hi0 hz0 (by rw [hz1]; decide) (by rw [hz1]; decide) ?_ h
 rw [hz1, parts1, hx]
 exact fill1 cs hl _ (by simp)
theorem bs2 (hg : o.guard = none) (x y : Operand) (ho : o.op = .buildSlice 25 2 #[(0, x), (1, y)]) (cx cy : List Value) (hx : a.eval x = .agg cx.toArray) (hy : a.eval y = .agg cy.toArray) (hlx : cx.length = 258) (hly : cy.length = 258)
  (h : wpList Tryz.prog ops Q rest (a.put o.dst (.slice (some ⟨w.heap.size, 0, none⟩) 2 2)) (w.alloc (.cells (cx ++ cy).toArray 36))) : wpList Tryz.prog ops Q (o :: rest) a w := by
 obtain ⟨i0, hi0, hz0, hz1, hz2⟩ := info_parts Tryz.info36'
 refine wpList_buildSlice hg 25 36 2 _ ho (cx ++ cy).toArray i0 _ Tryz.underlying25 hi0 hz0 (by rw [hz1]; decide) (by rw [hz1]; decide) ?_ h
 rw [hz1, parts2, hx, hy]
 exact fill2 cx cy hlx hly _ (by simp)
theorem bd2 (hg : o.guard = none) (x y : Operand) (ho : o.op = .build 36 #[(0, x), (2, y)]) (k : Int) (A : Option Addr) (n m : Nat) (hx : a.eval x = .int .i64 k) (hy : a.eval y = .slice A n m)
  (h : wpList Tryz.prog ops Q rest (a.put o.dst (.agg (RfC k noB (.slice A n m)).toArray)) w) : wpList Tryz.prog ops Q (o :: rest) a w := by
 refine wpList_buildTo hg 36 _ ho _ rfl _ ?_ h
 rw [parts2, hx, hy]
 exact built30 k A n m
theorem bd1 (hg : o.guard = none) (x : Operand) (ho : o.op = .build 36 #[(0, x)]) (hx : a.eval x = .int .i64 1)
  (h : wpList Tryz.prog ops Q rest (a.put o.dst (.agg (RfC 1 noB (.slice none 0 0)).toArray)) w) : wpList Tryz.prog ops Q (o :: rest) a w := by
 refine wpList_buildTo hg 36 _ ho _ rfl _ ?_ h
 rw [parts1, hx]
 exact built30e
theorem bd0 (hg : o.guard = none) (ho : o.op = .build 36 #[])
  (h : wpList Tryz.prog ops Q rest (a.put o.dst (.agg (RfC 0 noB (.slice none 0 0)).toArray)) w) : wpList Tryz.prog ops Q (o :: rest) a w :=
 wpList_buildTo hg 36 _ ho _ rfl _ (by rw [parts0]; exact built30z) h
theorem st30 (hg : o.guard = none) (x y : Operand) (ho : o.op = .store 36 x y) (g : Nat) (cs old : List Value) (hx : a.eval x = .pointer (some ⟨g, 0, none⟩)) (hy : a.eval y = .agg cs.toArray) (hb : w.heap[g]? = some (.cells old.toArray 36 (0, 0))) (hold : old.length = 258) (hl : cs.length = 258) (h1 : ∀ v ∈ cs, v.oneCell' = true)
  (h : wpList Tryz.prog ops Q rest (a.put o.dst undef) (w.setRow g cs.toArray)) : wpList Tryz.prog ops Q (o :: rest) a w :=
 wpList_store_row hg 36 x y ho g cs.toArray hx hy 36 old.toArray hb (by rw [Tryz.info36]; simp [hl]) (by simp [hold, hl]) (all_oneCell_toArray h1) h
theorem ld30 (hg : o.guard = none) (x : Operand) (ho : o.op = .load 36 x) (g off : Nat) (cs : List Value) (hx : a.eval x = .pointer (some ⟨g, off, none⟩)) (hb : w.rangeAt g off cs) (hl : cs.length = 258)
  (h : wpList Tryz.prog ops Q rest (a.put o.dst (.agg cs.toArray)) w) : wpList Tryz.prog ops Q (o :: rest) a w :=
 wpList_load_mid hg 36 x ho g off hx cs _ hb Tryz.underlying36 rfl (by rw [hl]; exact Tryz.info36) h
end
theorem row_range {w : World} {g : Nat} {cs : List Value} {t : TypeId} {fz : Nat × Nat} (h : w.heap[g]? = some (.cells cs.toArray t fz)) : w.rangeAt g 0 cs := fun j v hv => by
 rw [Lib.cell_of_heap h]
 show cs.toArray[0 + j]? = _
 rw [List.getElem?_toArray, Nat.zero_add]; exact hv
theorem setRow_kb (w : World) (g : Nat) (cs : Array Value) : Kb (fun i => i = g) w (w.setRow g cs) := ⟨rfl, rfl, rfl, by simp, fun i _ hn => setRow_other w g i cs hn⟩
theorem results_nd {fn : Func} {p : Tmp} (h : fn.results = #[.cell p 36]) (tmps : Array Value) (w : World) (g : Nat) (cs : List Value) (fr : Nat × Nat) (hp : tmps.getD p undef = .pointer (some ⟨g, 0, none⟩)) (hg : w.heap[g]? = some (.cells cs.toArray 36 fr)) (hl : cs.length = 258) :
  (results fn tmps).run Tryz.prog w = .ok (.agg cs.toArray) w :=
 results_cell_row h tmps w g 36 cs.toArray fr _ hp hg Tryz.underlying36 rfl (by rw [Tryz.info36]; simp [hl])
end Go.Proofs.YtejdfpieblkapaaGreatDoor
