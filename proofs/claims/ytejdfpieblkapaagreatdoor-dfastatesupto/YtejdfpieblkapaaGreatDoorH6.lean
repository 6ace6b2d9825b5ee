/- Bytes numbered by their columns. -/
import Derived.Test.YtejdfpieblkapaaGreatDoorG10
import Derived.Test.YtejdfpieblkapaaGreatDoorM60
import Derived.Test.YtejdfpieblkapaaGreatDoorG24
import Derived.Test.YtejdfpieblkapaaGreatDoorH2
import Derived.Test.YtejdfpieblkapaaGreatDoorG36b
import Derived.Test.YtejdfpieblkapaaGreatDoorG30
namespace Go.Proofs.YtejdfpieblkapaaGreatDoor
open Lib renaming hid → zh
open Go.RowKit Go.Shelf

abbrev tx (t : List UInt8) : Value := .string ⟨t.toArray⟩
theorem tx_inj {a b : List UInt8} (h : tx a = tx b) : a = b := by
 have := Value.string.inj h
 have := congrArg (fun x : ByteArray => x.data.toList) this
 simpa using this
def seen (col : Nat → List UInt8) : Nat → List (List UInt8)
 | 0 => []
 | k + 1 => if col k ∈ seen col k then seen col k else seen col k ++ [col k]
theorem seen_yes {col : Nat → List UInt8} {k : Nat} (h : col k ∈ seen col k) : seen col (k + 1) = seen col k := by simp [seen, h]
theorem seen_no {col : Nat → List UInt8} {k : Nat} (h : col k ∉ seen col k) : seen col (k + 1) = seen col k ++ [col k] := by simp [seen, h]
theorem seen_mem (col : Nat → List UInt8) (t : List UInt8) : ∀ k, t ∈ seen col k ↔ ∃ j, j < k ∧ col j = t
 | 0 => by simp [seen]
 | k + 1 => by
  have ih := seen_mem col t k
  by_cases h : col k ∈ seen col k
  ·rw [seen_yes h, ih]
   constructor
   ·rintro ⟨j, h1, h2⟩; exact ⟨j, by omega, h2⟩
   ·rintro ⟨j, h1, h2⟩
    rcases Nat.lt_or_ge j k with h3 | h3
    ·exact ⟨j, h3, h2⟩
    ·obtain rfl : j = k := by omega
     rw [h2] at h; exact ih.1 h
  ·rw [seen_no h, List.mem_append, ih, List.mem_singleton]
   constructor
   ·rintro (⟨j, h1, h2⟩ | h1)
    ·exact ⟨j, by omega, h2⟩
    ·exact ⟨k, by omega, h1.symm⟩
   ·rintro ⟨j, h1, h2⟩
    rcases Nat.lt_or_ge j k with h3 | h3
    ·exact .inl ⟨j, h3, h2⟩
    ·obtain rfl : j = k := by omega
     exact .inr h2.symm
theorem seen_len (col : Nat → List UInt8) : ∀ k, (seen col k).length ≤ k
 | 0 => by simp [seen]
 | k + 1 => by
  have ih := seen_len col k
  by_cases h : col k ∈ seen col k
  ·rw [seen_yes h]; omega
  ·rw [seen_no h, List.length_append, List.length_singleton]; omega
theorem seen_step (col : Nat → List UInt8) (k : Nat) : seen col k <+: seen col (k + 1) := by
 by_cases h : col k ∈ seen col k
 ·rw [seen_yes h]; exact List.prefix_refl _
 ·rw [seen_no h]; exact List.prefix_append _ _
theorem seen_pre (col : Nat → List UInt8) {j k : Nat} (h : j ≤ k) : seen col j <+: seen col k := by
 induction k with
 | zero =>
  obtain rfl : j = 0 := by omega
  exact List.prefix_refl _
 | succ k ih =>
  rcases Nat.lt_or_ge j (k + 1) with h1 | h1
  ·exact (ih (by omega)).trans (seen_step col k)
  ·obtain rfl : j = k + 1 := by omega
   exact List.prefix_refl _
theorem idx_pre {l m : List (List UInt8)} {t : List UInt8} (h : l <+: m) (ht : t ∈ l) : m.idxOf t = l.idxOf t := by
 obtain ⟨s, rfl⟩ := h
 rw [List.idxOf_append, if_pos ht]
def grp (col : Nat → List UInt8) (b : Nat) : Nat := (seen col 256).idxOf (col b)
theorem grp_at (col : Nat → List UInt8) {b k : Nat} (hb : b < k) (hk : k ≤ 256) : (seen col k).idxOf (col b) = grp col b := (idx_pre (seen_pre col hk) ((seen_mem col _ k).2 ⟨b, hb, rfl⟩)).symm
theorem grp_lt (col : Nat → List UInt8) {b : Nat} (hb : b < 256) : grp col b < (seen col 256).length := List.idxOf_lt_length_iff.2 ((seen_mem col _ 256).2 ⟨b, hb, rfl⟩)
theorem grp_eq (col : Nat → List UInt8) {a b : Nat} (ha : a < 256) (hb : b < 256) : grp col a = grp col b ↔ col a = col b := by
 constructor
 ·intro h
  have h1 := List.getElem_idxOf (grp_lt col ha)
  have h2 := List.getElem_idxOf (grp_lt col hb)
  unfold grp at h
  simp only [h] at h1
  exact h1.symm.trans h2
 ·intro h; unfold grp; rw [h]
def gcs (col : Nat → List UInt8) (k : Nat) : List Value := (List.range 256).map fun j => if j < k then pv (grp col j) else pv 0
theorem gcs_len (col : Nat → List UInt8) (k : Nat) : (gcs col k).length = 256 := by simp [gcs]
theorem gcs_set (col : Nat → List UInt8) (k : Nat) (hk : k < 256) : (gcs col k).set k (pv (grp col k)) = gcs col (k + 1) := by
 apply List.ext_getElem?
 intro i
 unfold gcs
 rcases Nat.lt_or_ge i 256 with h1 | h1
 ·by_cases h : i = k
  ·subst h
   rw [List.getElem?_set_self (by simp; omega)]
   simp [h1]
  ·rw [List.getElem?_set_ne (fun e => h e.symm)]
   simp only [List.getElem?_map, List.getElem?_range h1, Option.map_some]
   by_cases h2 : i < k
   ·rw [if_pos h2, if_pos (by omega)]
   ·rw [if_neg h2, if_neg (by omega)]
 ·rw [List.getElem?_eq_none (by simp; omega), List.getElem?_eq_none (by simp; omega)]
theorem gcs_one (col : Nat → List UInt8) (k : Nat) : ∀ v ∈ gcs col k, v.oneCell' = true := by
 intro v hv
 obtain ⟨j, _, rfl⟩ := List.mem_map.1 hv
 split <;> rfl
theorem gcs_zero (col : Nat → List UInt8) : gcs col 0 = List.replicate 256 (pv 0) := by
 apply List.ext_getElem?
 intro i
 unfold gcs
 rw [List.getElem?_replicate]
 by_cases h : i < 256
 ·simp [h]
 ·rw [if_neg h, List.getElem?_eq_none (by simp; omega)]
theorem grp_yes {col : Nat → List UInt8} {k : Nat} (hk : k < 256) (h : col k ∈ seen col k) : (seen col k).idxOf (col k) = grp col k := (idx_pre (seen_pre col (by omega)) h).symm
theorem grp_no {col : Nat → List UInt8} {k : Nat} (hk : k < 256) (h : col k ∉ seen col k) : grp col k = (seen col k).length := by
 rw [← grp_at col (k := k + 1) (by omega) (by omega), seen_no h, List.idxOf_append, if_neg h]
 simp
def MpF (f : Value → Option Value) (l : List (List UInt8)) : Prop := ∀ t, f (tx t) = if t ∈ l then some (pv (l.idxOf t)) else none
theorem MpF.put {f f' : Value → Option Value} {l : List (List UInt8)} {t : List UInt8} (h : MpF f l) (ht : t ∉ l) (h1 : f' (tx t) = some (pv l.length)) (h2 : ∀ k, k ≠ tx t → f' k = f k) : MpF f' (l ++ [t]) := by
 intro u
 by_cases hu : u = t
 ·subst hu
  rw [h1, if_pos (by simp), List.idxOf_append, if_neg ht]
  simp
 ·rw [h2 (tx u) (fun e => hu (tx_inj e)), h u]
  by_cases hm : u ∈ l
  ·rw [if_pos hm, if_pos (by simp [hm]), List.idxOf_append, if_pos hm]
  ·rw [if_neg hm, if_neg (by simp [hm, hu])]
theorem results_row2 {P : Program} {fn : Func} {p q : Tmp} {ty : TypeId} (h : fn.results = #[.cell p ty, .tmp q]) (tmps : Array Value) (w : World) (g : Nat) (t : TypeId) (cs : Array Value) (fr : Nat × Nat) (d : TypeDesc)
  (hp : tmps.getD p undef = .pointer (some ⟨g, 0, none⟩)) (hg : w.heap[g]? = some (.cells cs t fr))
  (hu : P.underlying ty = some d) (hd : (match d with | .struct _ | .array _ _ => true | _ => false) = true) (hi : (P.info? ty).map (·.size) = some cs.size) :
  (results fn tmps).run P w = .ok (.tuple #[.agg cs, tmps.getD q undef]) w := by
 have hp' : tmps[p]?.getD undef = .pointer (some ⟨g, 0, none⟩) := by simpa using hp
 simp [results, h, hp', asAddr, run_loadVar_row w g t ty cs fr d hg hu hd hi]
theorem gcs_cell {w : World} {g k : Nat} {col : Nat → List UInt8} (h : w.heap[g]? = some (.cells (gcs col k).toArray 101 (0, 0))) (hk : k < 256) : ∃ v, w.cell? ⟨g, k, none⟩ = some v ∧ w.frozen? ⟨g, k, none⟩ = false := by
 refine ⟨(gcs col k)[k]'(by rw [gcs_len]; exact hk), ?_, Lib.frozen_of_heap h k⟩
 rw [Lib.cell_of_heap h]
 simp [gcs_len, hk]
theorem gcs_put {w : World} {g k : Nat} {col : Nat → List UInt8} (h : w.heap[g]? = some (.cells (gcs col k).toArray 101 (0, 0))) (hk : k < 256) : (w.setCell ⟨g, k, none⟩ (pv (grp col k))).heap[g]? = some (.cells (gcs col (k + 1)).toArray 101 (0, 0)) := by
 rw [set_heap w g k _ _ _ _ h, ← gcs_set col k hk]
 simp
theorem Tryz.zeros101 : Tryz.zeroCells101 = (List.replicate 256 (pv 0)).toArray := by kernel_rfl
theorem Tryz.size101 : (Tryz.prog.info? 101).map (·.size) = some 256 := by kernel_rfl

set_option maxRecDepth 100000 in
set_option maxHeartbeats 2000000 in
theorem grouped_93 (w : World) (ga : Nat) (col : Nat → List UInt8)
  (HF : ∀ b : Nat, b < 256 → ∀ w', Below w.heap.size w w' → Calls Tryz.prog 93 #[.int .i64 b, ptr ga] w' fun e w'' => e = .returned (tx (col b)) ∧ Below w'.heap.size w' w'') :
  Calls Tryz.prog 66 #[.func (.func 93) #[] #[ptr ga]] w fun e w' => e = .returned (.tuple #[.agg (gcs col 256).toArray, pv (seen col 256).length]) ∧ Below w.heap.size w w' := by
 have hmm := @run_makeMap Tryz.prog
 have HFF := zh HF
 clear HF
 go_enter Tryz.func66, Tryz.ntmps66
 go_upto_region 3 with fail
 have hz := Tryz.zeros101
 rw [← gcs_zero col] at hz
 rw [hz]
 clear hz
 have hb0 : Below w.heap.size w (((w.alloc (.cells (gcs col 0).toArray 101)).alloc (.cells (gcs col 0).toArray 101)).alloc (.map #[] 0)) := (((Below.refl _ w).alloc (Nat.le_refl _) _).alloc (by simp) _).alloc (by simp; omega) _
 have hg2 : (((w.alloc (.cells (gcs col 0).toArray 101)).alloc (.cells (gcs col 0).toArray 101)).alloc (.map #[] 0)).heap[w.heap.size]? = some (.cells (gcs col 0).toArray 101 (0, 0)) := by
  rw [Below.heap_alloc _ _ _ (by simp; omega), Below.heap_alloc _ _ _ (by simp)]; exact heap_alloc_new w _
 have hg4 : (((w.alloc (.cells (gcs col 0).toArray 101)).alloc (.cells (gcs col 0).toArray 101)).alloc (.map #[] 0)).heap[w.heap.size + 1]? = some (.cells (gcs col 0).toArray 101 (0, 0)) := by
  rw [Below.heap_alloc _ _ _ (by simp)]
  have := heap_alloc_new (w.alloc (.cells (gcs col 0).toArray 101)) (.cells (gcs col 0).toArray 101)
  rwa [show (w.alloc (.cells (gcs col 0).toArray 101)).heap.size = w.heap.size + 1 by simp] at this
 have hmp : MpAt (((w.alloc (.cells (gcs col 0).toArray 101)).alloc (.cells (gcs col 0).toArray 101)).alloc (.map #[] 0)) (w.heap.size + 1 + 1) StrK (fun _ => none) 0 := by
  have := MpAt.made ((w.alloc (.cells (gcs col 0).toArray 101)).alloc (.cells (gcs col 0).toArray 101)) StrK
  rwa [show ((w.alloc (.cells (gcs col 0).toArray 101)).alloc (.cells (gcs col 0).toArray 101)).heap.size = w.heap.size + 1 + 1 by simp] at this
 generalize ((w.alloc (.cells (gcs col 0).toArray 101)).alloc (.cells (gcs col 0).toArray 101)).alloc (.map #[] 0) = w0 at hb0 hg2 hg4 hmp ⊢
 have HB0 := zh hb0; have HG2 := zh hg2; have HG4 := zh hg4; have HMP := zh hmp
 clear hb0 hg2 hg4 hmp
 go_wp2_with fail
 go_loopw [11] (fun i wr => ∃ (k : Nat) (f : Value → Option Value), k ≤ 256 ∧ i = .int .i64 k ∧ Hid (MpAt wr (w.heap.size + 1 + 1) StrK f (seen col k).length) ∧ Hid (MpF f (seen col k)) ∧ Hid (wr.heap[w.heap.size]? = some (.cells (gcs col 0).toArray 101 (0, 0))) ∧ Hid (wr.heap[w.heap.size + 1]? = some (.cells (gcs col k).toArray 101 (0, 0))) ∧ Hid (Below w.heap.size w wr)) (fun i _ => 256 - (intOf i).toNat)
 case atStart => exact ⟨0, _, by omega, rfl, HMP.out, (fun t => by simp [seen]), HG2.out, HG4.out, HB0.out⟩
 case round =>
  clear HB0 HG2 HG4 HMP
  obtain ⟨k, f, hk, rfl, HM, HF, HG2, HG4, HB⟩ := hrel
  by_cases hlt : k < 256
  ·have hki : (k : Int) < 256 := by omega
   have hk0 : (0 : Int) ≤ k := by omega
   have HC := zh (HFF.out k hlt wr HB.out)
   go_wp2_with fail
   go_at_call 93
   refine HC.out.mono ?_
   rintro e w1 ⟨rfl, hb1⟩
   have HM1 := zh (HM.out.keep (hb1.block _ HM.out.lt) (fun _ h => h))
   have HG21 := zh ((hb1.block _ (lt_of_heap HG2.out)).trans HG2.out)
   have HG41 := zh ((hb1.block _ (lt_of_heap HG4.out)).trans HG4.out)
   have HB1 := zh (HB.out.trans (hb1.mono HB.out.size))
   clear hb1 HC HM HG2 HG4 HB
   have HGS := zh (gcs_set col k hlt)
   by_cases hin : col k ∈ seen col k
   ·have HS := zh (seen_yes hin)
    have HL := zh (show (if true = true then Value.tuple #[(f (tx (col k))).getD (.int .i64 0), .bool (f (tx (col k))).isSome] else (f (tx (col k))).getD (.int .i64 0)) = .tuple #[pv (grp col k), .bool true] by rw [HF.out, if_pos hin, grp_yes hlt hin]; rfl)
    clear hin
    obtain ⟨v0, c1, f1⟩ := gcs_cell HG41.out hlt
    go_wp2_with (at_lookup; refine wpList_mp_look _ rfl _ _ 106 true rfl (keyIn_str Tryz.underlying9) Tryz.underlying106 (Tryz.zeroValue3 _) rfl HM1.out (tx (col k)) rfl ⟨_, rfl⟩ (.tuple #[pv (grp col k), .bool true]) HL.out ?_)
    go_roundw
    case rel =>
     refine ⟨k + 1, f, by omega, by go_num, ?_, ?_, ?_, gcs_put HG41.out hlt, HB1.out.setCell (p := ⟨w.heap.size + 1, k, none⟩) (by simp) _⟩
     ·show MpAt _ _ _ _ _
      rw [HS.out]
      exact HM1.out.keep (Below.heap_setCell _ _ _ _ (by simp)) (fun _ h => h)
     ·show MpF _ _
      rw [HS.out]; exact HF.out
     ·exact (Below.heap_setCell _ _ _ _ (by simp)).trans HG21.out
    case measure => simp [intOf]; omega
   ·have HS := zh (seen_no hin)
    have HGN := zh (grp_no hlt hin)
    have HL := zh (show (if true = true then Value.tuple #[(f (tx (col k))).getD (.int .i64 0), .bool (f (tx (col k))).isSome] else (f (tx (col k))).getD (.int .i64 0)) = .tuple #[.int .i64 0, .bool false] by rw [HF.out, if_neg hin]; rfl)
    have HIN := zh hin
    clear hin
    go_wp2_with (first
     | (at_lookup; refine wpList_mp_look _ rfl _ _ 106 true rfl (keyIn_str Tryz.underlying9) Tryz.underlying106 (Tryz.zeroValue3 _) rfl HM1.out (tx (col k)) rfl ⟨_, rfl⟩ (.tuple #[.int .i64 0, .bool false]) HL.out ?_)
     | (at_len; refine wpList_mp_len _ rfl _ 106 rfl Tryz.underlying106 rfl HM1.out ?_)
     | (at_mapUpdate; refine wpList_mp_store _ rfl _ _ _ 106 rfl (keyIn_str Tryz.underlying9) Tryz.underlying106 rfl HM1.out (tx (col k)) (pv (seen col k).length) rfl rfl ⟨_, rfl⟩ ?_; intro w2 f2 q1 q2 q3 q4; have HG42 := zh ((q4.grown.block _ (lt_of_heap HG41.out) (by simp)).trans HG41.out); have HG22 := zh ((q4.grown.block _ (lt_of_heap HG21.out) (by simp; omega)).trans HG21.out); have HB2 := zh (HB1.out.grown q4.grown HB1.out.size (fun j e => by cases e; omega)); obtain ⟨v0, c1, f1⟩ := gcs_cell HG42.out hlt; have Q1 := zh q1; have Q2 := zh q2; have Q3 := zh q3; clear q1 q2 q3 q4))
    go_roundw
    case rel =>
     refine ⟨k + 1, f2, by omega, by go_num, ?_, ?_, ?_, by rw [← HGN.out]; exact gcs_put HG42.out hlt, HB2.out.setCell (p := ⟨w.heap.size + 1, k, none⟩) (by simp) _⟩
     ·show MpAt _ _ _ _ _
      have h1 := Q1.out
      rw [HF.out, if_neg HIN.out] at h1
      rw [HS.out, List.length_append, List.length_singleton]
      exact h1.keep (Below.heap_setCell _ _ _ _ (by simp)) (fun _ h => h)
     ·show MpF _ _
      rw [HS.out]; exact HF.out.put HIN.out Q2.out Q3.out
     ·exact (Below.heap_setCell _ _ _ _ (by simp)).trans HG22.out
    case measure => simp [intOf]; omega
  ·obtain rfl : k = 256 := by omega
   have HLD := zh (row_range HG4.out)
   go_wp2_with (first
    | (refine wpList_load_mid rfl 101 _ rfl (w.heap.size + 1) 0 rfl (gcs col 256) _ HLD.out Tryz.underlying101 rfl (by rw [gcs_len]; exact Tryz.size101) ?_)
    | (at_len; refine wpList_mp_len _ rfl _ 106 rfl Tryz.underlying106 rfl HM.out ?_)
    | (refine wpList_store_row rfl 101 _ _ rfl w.heap.size (gcs col 256).toArray rfl rfl 101 (gcs col 0).toArray HG2.out (by rw [Tryz.size101]; simp [gcs_len]) (by simp [gcs_len]) (all_oneCell_toArray (gcs_one col 256)) ?_))
   refine bodyPost_ret (results_row2 Tryz.results66 _ _ w.heap.size 101 (gcs col 256).toArray (0, 0) _ rfl (setRow_heap _ _ _ _ _ _ HG2.out) Tryz.underlying101 rfl (by rw [Tryz.size101]; simp [gcs_len])) rfl ?_
   exact ⟨rfl, HB.out.trans ((setRow_kb wr w.heap.size _).below HB.out.size (fun i hi => Nat.le_of_eq hi.symm))⟩

set_option maxRecDepth 100000 in
set_option maxHeartbeats 2000000 in
theorem grouped_67 (w : World) (mk : Nat) (col : Nat → List UInt8)
  (HF : ∀ b : Nat, b < 256 → ∀ w', Below w.heap.size w w' → Calls Tryz.prog 67 #[ptr mk, .int .i64 b] w' fun e w'' => e = .returned (tx (col b)) ∧ Below w'.heap.size w' w'') :
  Calls Tryz.prog 66 #[.func (.func 67) #[ptr mk] #[]] w fun e w' => e = .returned (.tuple #[.agg (gcs col 256).toArray, pv (seen col 256).length]) ∧ Below w.heap.size w w' := by
 have hmm := @run_makeMap Tryz.prog
 have HFF := zh HF
 clear HF
 go_enter Tryz.func66, Tryz.ntmps66
 go_upto_region 3 with fail
 have hz := Tryz.zeros101
 rw [← gcs_zero col] at hz
 rw [hz]
 clear hz
 have hb0 : Below w.heap.size w (((w.alloc (.cells (gcs col 0).toArray 101)).alloc (.cells (gcs col 0).toArray 101)).alloc (.map #[] 0)) := (((Below.refl _ w).alloc (Nat.le_refl _) _).alloc (by simp) _).alloc (by simp; omega) _
 have hg2 : (((w.alloc (.cells (gcs col 0).toArray 101)).alloc (.cells (gcs col 0).toArray 101)).alloc (.map #[] 0)).heap[w.heap.size]? = some (.cells (gcs col 0).toArray 101 (0, 0)) := by
  rw [Below.heap_alloc _ _ _ (by simp; omega), Below.heap_alloc _ _ _ (by simp)]; exact heap_alloc_new w _
 have hg4 : (((w.alloc (.cells (gcs col 0).toArray 101)).alloc (.cells (gcs col 0).toArray 101)).alloc (.map #[] 0)).heap[w.heap.size + 1]? = some (.cells (gcs col 0).toArray 101 (0, 0)) := by
  rw [Below.heap_alloc _ _ _ (by simp)]
  have := heap_alloc_new (w.alloc (.cells (gcs col 0).toArray 101)) (.cells (gcs col 0).toArray 101)
  rwa [show (w.alloc (.cells (gcs col 0).toArray 101)).heap.size = w.heap.size + 1 by simp] at this
 have hmp : MpAt (((w.alloc (.cells (gcs col 0).toArray 101)).alloc (.cells (gcs col 0).toArray 101)).alloc (.map #[] 0)) (w.heap.size + 1 + 1) StrK (fun _ => none) 0 := by
  have := MpAt.made ((w.alloc (.cells (gcs col 0).toArray 101)).alloc (.cells (gcs col 0).toArray 101)) StrK
  rwa [show ((w.alloc (.cells (gcs col 0).toArray 101)).alloc (.cells (gcs col 0).toArray 101)).heap.size = w.heap.size + 1 + 1 by simp] at this
 generalize ((w.alloc (.cells (gcs col 0).toArray 101)).alloc (.cells (gcs col 0).toArray 101)).alloc (.map #[] 0) = w0 at hb0 hg2 hg4 hmp ⊢
 have HB0 := zh hb0; have HG2 := zh hg2; have HG4 := zh hg4; have HMP := zh hmp
 clear hb0 hg2 hg4 hmp
 go_wp2_with fail
 go_loopw [11] (fun i wr => ∃ (k : Nat) (f : Value → Option Value), k ≤ 256 ∧ i = .int .i64 k ∧ Hid (MpAt wr (w.heap.size + 1 + 1) StrK f (seen col k).length) ∧ Hid (MpF f (seen col k)) ∧ Hid (wr.heap[w.heap.size]? = some (.cells (gcs col 0).toArray 101 (0, 0))) ∧ Hid (wr.heap[w.heap.size + 1]? = some (.cells (gcs col k).toArray 101 (0, 0))) ∧ Hid (Below w.heap.size w wr)) (fun i _ => 256 - (intOf i).toNat)
 case atStart => exact ⟨0, _, by omega, rfl, HMP.out, (fun t => by simp [seen]), HG2.out, HG4.out, HB0.out⟩
 case round =>
  clear HB0 HG2 HG4 HMP
  obtain ⟨k, f, hk, rfl, HM, HF, HG2, HG4, HB⟩ := hrel
  by_cases hlt : k < 256
  ·have hki : (k : Int) < 256 := by omega
   have hk0 : (0 : Int) ≤ k := by omega
   have HC := zh (HFF.out k hlt wr HB.out)
   go_wp2_with fail
   go_at_call 67
   refine HC.out.mono ?_
   rintro e w1 ⟨rfl, hb1⟩
   have HM1 := zh (HM.out.keep (hb1.block _ HM.out.lt) (fun _ h => h))
   have HG21 := zh ((hb1.block _ (lt_of_heap HG2.out)).trans HG2.out)
   have HG41 := zh ((hb1.block _ (lt_of_heap HG4.out)).trans HG4.out)
   have HB1 := zh (HB.out.trans (hb1.mono HB.out.size))
   clear hb1 HC HM HG2 HG4 HB
   have HGS := zh (gcs_set col k hlt)
   by_cases hin : col k ∈ seen col k
   ·have HS := zh (seen_yes hin)
    have HL := zh (show (if true = true then Value.tuple #[(f (tx (col k))).getD (.int .i64 0), .bool (f (tx (col k))).isSome] else (f (tx (col k))).getD (.int .i64 0)) = .tuple #[pv (grp col k), .bool true] by rw [HF.out, if_pos hin, grp_yes hlt hin]; rfl)
    clear hin
    obtain ⟨v0, c1, f1⟩ := gcs_cell HG41.out hlt
    go_wp2_with (at_lookup; refine wpList_mp_look _ rfl _ _ 106 true rfl (keyIn_str Tryz.underlying9) Tryz.underlying106 (Tryz.zeroValue3 _) rfl HM1.out (tx (col k)) rfl ⟨_, rfl⟩ (.tuple #[pv (grp col k), .bool true]) HL.out ?_)
    go_roundw
    case rel =>
     refine ⟨k + 1, f, by omega, by go_num, ?_, ?_, ?_, gcs_put HG41.out hlt, HB1.out.setCell (p := ⟨w.heap.size + 1, k, none⟩) (by simp) _⟩
     ·show MpAt _ _ _ _ _
      rw [HS.out]
      exact HM1.out.keep (Below.heap_setCell _ _ _ _ (by simp)) (fun _ h => h)
     ·show MpF _ _
      rw [HS.out]; exact HF.out
     ·exact (Below.heap_setCell _ _ _ _ (by simp)).trans HG21.out
    case measure => simp [intOf]; omega
   ·have HS := zh (seen_no hin)
    have HGN := zh (grp_no hlt hin)
    have HL := zh (show (if true = true then Value.tuple #[(f (tx (col k))).getD (.int .i64 0), .bool (f (tx (col k))).isSome] else (f (tx (col k))).getD (.int .i64 0)) = .tuple #[.int .i64 0, .bool false] by rw [HF.out, if_neg hin]; rfl)
    have HIN := zh hin
    clear hin
    go_wp2_with (first
     | (at_lookup; refine wpList_mp_look _ rfl _ _ 106 true rfl (keyIn_str Tryz.underlying9) Tryz.underlying106 (Tryz.zeroValue3 _) rfl HM1.out (tx (col k)) rfl ⟨_, rfl⟩ (.tuple #[.int .i64 0, .bool false]) HL.out ?_)
     | (at_len; refine wpList_mp_len _ rfl _ 106 rfl Tryz.underlying106 rfl HM1.out ?_)
     | (at_mapUpdate; refine wpList_mp_store _ rfl _ _ _ 106 rfl (keyIn_str Tryz.underlying9) Tryz.underlying106 rfl HM1.out (tx (col k)) (pv (seen col k).length) rfl rfl ⟨_, rfl⟩ ?_; intro w2 f2 q1 q2 q3 q4; have HG42 := zh ((q4.grown.block _ (lt_of_heap HG41.out) (by simp)).trans HG41.out); have HG22 := zh ((q4.grown.block _ (lt_of_heap HG21.out) (by simp; omega)).trans HG21.out); have HB2 := zh (HB1.out.grown q4.grown HB1.out.size (fun j e => by cases e; omega)); obtain ⟨v0, c1, f1⟩ := gcs_cell HG42.out hlt; have Q1 := zh q1; have Q2 := zh q2; have Q3 := zh q3; clear q1 q2 q3 q4))
    go_roundw
    case rel =>
     refine ⟨k + 1, f2, by omega, by go_num, ?_, ?_, ?_, by rw [← HGN.out]; exact gcs_put HG42.out hlt, HB2.out.setCell (p := ⟨w.heap.size + 1, k, none⟩) (by simp) _⟩
     ·show MpAt _ _ _ _ _
      have h1 := Q1.out
      rw [HF.out, if_neg HIN.out] at h1
      rw [HS.out, List.length_append, List.length_singleton]
      exact h1.keep (Below.heap_setCell _ _ _ _ (by simp)) (fun _ h => h)
     ·show MpF _ _
      rw [HS.out]; exact HF.out.put HIN.out Q2.out Q3.out
     ·exact (Below.heap_setCell _ _ _ _ (by simp)).trans HG22.out
    case measure => simp [intOf]; omega
  ·obtain rfl : k = 256 := by omega
   have HLD := zh (row_range HG4.out)
   go_wp2_with (first
    | (refine wpList_load_mid rfl 101 _ rfl (w.heap.size + 1) 0 rfl (gcs col 256) _ HLD.out Tryz.underlying101 rfl (by rw [gcs_len]; exact Tryz.size101) ?_)
    | (at_len; refine wpList_mp_len _ rfl _ 106 rfl Tryz.underlying106 rfl HM.out ?_)
    | (refine wpList_store_row rfl 101 _ _ rfl w.heap.size (gcs col 256).toArray rfl rfl 101 (gcs col 0).toArray HG2.out (by rw [Tryz.size101]; simp [gcs_len]) (by simp [gcs_len]) (all_oneCell_toArray (gcs_one col 256)) ?_))
   refine bodyPost_ret (results_row2 Tryz.results66 _ _ w.heap.size 101 (gcs col 256).toArray (0, 0) _ rfl (setRow_heap _ _ _ _ _ _ HG2.out) Tryz.underlying101 rfl (by rw [Tryz.size101]; simp [gcs_len])) rfl ?_
   exact ⟨rfl, HB.out.trans ((setRow_kb wr w.heap.size _).below HB.out.size (fun i hi => Nat.le_of_eq hi.symm))⟩
end Go.Proofs.YtejdfpieblkapaaGreatDoor

/- A byte's column: where it leads from all states, as a text. -/
namespace Go.Proofs.YtejdfpieblkapaaGreatDoor
open Lib renaming hid → zh
open Go.RowKit Go.Shelf

def b2 : Option Nat → List UInt8
 | none => [255, 255]
 | some q => [UInt8.ofNat q, UInt8.ofNat (q / 256)]
theorem b2_len (o : Option Nat) : (b2 o).length = 2 := by cases o <;> rfl
theorem b2_inj {a b : Option Nat} (ha : ∀ q, a = some q → q < 65000) (hb : ∀ q, b = some q → q < 65000) (h : b2 a = b2 b) : a = b := by
 have e : ∀ q : Nat, q < 65000 → (UInt8.ofNat (q / 256)).toNat = q / 256 ∧ (UInt8.ofNat q).toNat = q % 256 := fun q hq => by
  constructor
  ·simp; omega
  ·simp
 cases a with
 | none =>
  cases b with
  | none => rfl
  | some q =>
   obtain ⟨h1, h2⟩ := e q (hb q rfl)
   simp only [b2, List.cons.injEq] at h
   rw [← h.2.1] at h1
   have : (255 : UInt8).toNat = 255 := rfl
   have := hb q rfl
   omega
 | some p =>
  obtain ⟨g1, g2⟩ := e p (ha p rfl)
  cases b with
  | none =>
   simp only [b2, List.cons.injEq] at h
   rw [h.2.1] at g1
   have : (255 : UInt8).toNat = 255 := rfl
   have := ha p rfl
   omega
  | some q =>
   obtain ⟨h1, h2⟩ := e q (hb q rfl)
   simp only [b2, List.cons.injEq] at h
   rw [h.1] at g2
   rw [h.2.1] at g1
   congr 1
   omega
def colT (nx : Nat → Option Nat) (m : Nat) : List UInt8 := (List.range m).flatMap fun i => b2 (nx i)
theorem colT_succ (nx : Nat → Option Nat) (m : Nat) : colT nx (m + 1) = colT nx m ++ b2 (nx m) := by simp [colT, List.range_succ]
theorem colT_len (nx : Nat → Option Nat) : ∀ m, (colT nx m).length = 2 * m
 | 0 => rfl
 | m + 1 => by rw [colT_succ, List.length_append, colT_len nx m, b2_len]; omega
theorem colT_inj (f g : Nat → Option Nat) : ∀ m, (∀ i < m, ∀ q, f i = some q → q < 65000) → (∀ i < m, ∀ q, g i = some q → q < 65000) → colT f m = colT g m → ∀ i < m, f i = g i
 | 0, _, _, _ => fun i h => by omega
 | m + 1, hf, hg, h => fun i hi => by
  rw [colT_succ, colT_succ] at h
  obtain ⟨h1, h2⟩ := List.append_inj h (by rw [colT_len, colT_len])
  rcases Nat.lt_or_ge i m with h3 | h3
  ·exact colT_inj f g m (fun j hj => hf j (by omega)) (fun j hj => hg j (by omega)) h1 i h3
  ·obtain rfl : i = m := by omega
   exact b2_inj (hf i (by omega)) (hg i (by omega)) h2
def RwsAt (w : World) (A : Option Addr) (m K : Nat) (nx : Nat → Nat → Option Nat) : Prop := ∀ i < m, ∃ g gr cr, A = some ⟨g, 0, none⟩ ∧ w.cell? ⟨g, i, none⟩ = some (.slice (some ⟨gr, 0, none⟩) K cr) ∧ ∀ k < K, w.cell? ⟨gr, k, none⟩ = some (av (nx i k))
theorem RwsAt.below {w w' : World} {A : Option Addr} {m K : Nat} {nx : Nat → Nat → Option Nat} (h : RwsAt w A m K nx) (hb : Below w.heap.size w w') : RwsAt w' A m K nx := fun i hi => by
 obtain ⟨g, gr, cr, h1, h2, h3⟩ := h i hi
 exact ⟨g, gr, cr, h1, cell_below hb h2, fun k hk => cell_below hb (h3 k hk)⟩

set_option maxRecDepth 100000 in
set_option maxHeartbeats 2000000 in
theorem column_any (w : World) (mk b kb K m c : Nat) (A : Option Addr) (nx : Nat → Nat → Option Nat) (h6 : w.cell? ⟨mk, 261, none⟩ = some (.slice A m c)) (h2 : w.cell? ⟨mk, 2 + b, none⟩ = some (pv kb)) (hb : b < 256) (hk : kb < K) (hr : RwsAt w A m K nx) (hm : m ≤ 100000) (hq : ∀ i < m, ∀ q, nx i kb = some q → q < 65000) :
  Calls Tryz.prog 67 #[ptr mk, .int .i64 b] w fun e w' => e = .returned (tx (colT (fun i => nx i kb) m)) ∧ Below w.heap.size w w' := by
 obtain ⟨i0, hi0, hz0, hz1, hz2⟩ := info_parts Tryz.info5
 have HI := zh hi0; have HZ0 := zh hz0; have HZ1 := zh hz1; have HZ2 := zh hz2
 have HR := zh hr; have HQ := zh hq
 clear hi0 hz0 hz1 hz2 hr hq
 have p1 : IntKind.i64.wrap (2 * (m : Int)) = 2 * (m : Int) := IntWalk.i64_in _ (by omega)
 have hbi : (b : Int) < 256 := by omega
 have hb0 : (0 : Int) ≤ b := by omega
 have hki : (kb : Int) < K := by omega
 have hk0 : (0 : Int) ≤ kb := by omega
 go_enter Tryz.func67, Tryz.ntmps67
 go_wp2_with (at_make; refine wpList_make_own _ rfl _ _ 147 rfl w.heap.size 5 i0 _ 1 Tryz.underlying147 HI.out HZ0.out HZ1.out .i64 .i64 (2 * (m : Int)) (2 * m) rfl rfl (by omega) (by rw [HZ2.out]; omega) (by unfold maxLen; omega) (Nat.le_refl _) ?_)
 intro w0 hown hgrow
 have HO := zh hown
 have hB0 := (Below.refl w.heap.size w).grown hgrow (Nat.le_refl _) (fun g hg => by cases hg)
 have d6 := cell_below hB0 h6
 have HB0 := zh hB0
 clear hown hgrow hB0
 go_wp2_with fail
 go_loopw [5, 21] (fun v i wr => ∃ k g' c' : Nat, k ≤ m ∧ i = .int .i64 k ∧ v = .slice (some ⟨g', 0, none⟩) (2 * k) c' ∧ Hid (wr.ownsRow w.heap.size 5 1 (.slice (some ⟨g', 0, none⟩) (2 * k) c') (2 * k) (Lib.byteCells (colT (fun i => nx i kb) k))) ∧ Hid (Below w.heap.size w wr)) (fun _ i _ => m - (intOf i).toNat)
 case atStart => exact ⟨0, _, _, Nat.zero_le _, rfl, rfl, HO.out, HB0.out⟩
 case round =>
  clear HO HB0 d6
  obtain ⟨k, g', c', hkm, rfl, rfl, HO, HB⟩ := hrel
  by_cases hlt : k < m
  ·have hkmi : (k : Int) < m := by omega
   have hkm0 : (0 : Int) ≤ k := by omega
   obtain ⟨g, gr, cr, rfl, r1, r2⟩ := HR.out k hlt
   have c1 := cell_below HB.out r1
   have c2 := cell_below HB.out (r2 kb hk)
   have c3 := cell_below HB.out h2
   have hzb := HB.out.size
   have HC := zh (show colT (fun i => nx i kb) (k + 1) = colT (fun i => nx i kb) k ++ b2 (nx k kb) from colT_succ _ _)
   have HQ1 := zh (HQ.out k hlt)
   clear r1 r2
   cases ho : nx k kb with
   | none =>
    rw [ho] at c2 HC
    unfold av at c2
    have HE := zh (show Lib.byteCells (b2 none) = [.int .u8 255, .int .u8 255] from rfl)
    go_wp2_with (at_builtin; refine wpList_append_lies _ rfl _ _ 147 rfl w.heap.size 5 i0 _ 1 1 Tryz.underlying147 HI.out HZ0.out HZ1.out HZ2.out rfl (by omega) (.slice (some ⟨g', 0, none⟩) (2 * k) c') (2 * k) _ rfl (HO.out.alloc _) ⟨wr.heap.size, 0, none⟩ 2 2 [.int .u8 255, .int .u8 255] rfl rfl (World.news_of_block (cs := #[.int .u8 255, .int .u8 255]) (t := 5) (fr := (0, 0)) (heap_alloc_new wr _)) (by simp [Value.oneCell']) (by omega) (by unfold maxLen; omega) (by omega) (by simp; omega) (wr.heap.size + 1) (by simp) ?_)
    intro gg cap6 w6 hown6 hgrow6 hat6 hlt6
    have hb6 : Below w.heap.size w w6 := (HB.out.alloc HB.out.size _).grown hgrow6 (Nat.le_trans hzb (by simp)) (fun g hg => (HO.out.lt g hg).1)
    have HO6 := zh hown6
    have HB6 := zh hb6
    clear hown6 hgrow6 hat6 hlt6 hb6
    go_wp2
    go_roundw
    case rel =>
     refine ⟨k + 1, gg, cap6, by omega, by go_num, by rw [show 2 * (k + 1) = 2 * k + 2 by omega], ?_, HB6.out⟩
     show World.ownsRow _ _ _ _ _ _ _
     rw [HC.out, Lib.byteCells_append, HE.out, show 2 * (k + 1) = 2 * k + 2 by omega]; exact HO6.out
    case measure => simp [intOf]; omega
   | some q =>
    rw [ho] at c2 HC
    unfold av at c2
    have HE := zh (show Lib.byteCells (b2 (some q)) = [.int .u8 ((q : Int) % 256), .int .u8 ((q : Int) / 256 % 256)] by simp [Lib.byteCells, b2])
    go_wp2_with (at_builtin; refine wpList_append_lies _ rfl _ _ 147 rfl w.heap.size 5 i0 _ 1 1 Tryz.underlying147 HI.out HZ0.out HZ1.out HZ2.out rfl (by omega) (.slice (some ⟨g', 0, none⟩) (2 * k) c') (2 * k) _ rfl (HO.out.alloc _) ⟨wr.heap.size, 0, none⟩ 2 2 [.int .u8 ((q : Int) % 256), .int .u8 ((q : Int) / 256 % 256)] rfl rfl (World.news_of_block (cs := #[.int .u8 ((q : Int) % 256), .int .u8 ((q : Int) / 256 % 256)]) (t := 5) (fr := (0, 0)) (heap_alloc_new wr _)) (by simp [Value.oneCell']) (by omega) (by unfold maxLen; omega) (by omega) (by simp; omega) (wr.heap.size + 1) (by simp) ?_)
    intro gg cap6 w6 hown6 hgrow6 hat6 hlt6
    have hb6 : Below w.heap.size w w6 := (HB.out.alloc HB.out.size _).grown hgrow6 (Nat.le_trans hzb (by simp)) (fun g hg => (HO.out.lt g hg).1)
    have HO6 := zh hown6
    have HB6 := zh hb6
    clear hown6 hgrow6 hat6 hlt6 hb6
    go_wp2
    go_roundw
    case rel =>
     refine ⟨k + 1, gg, cap6, by omega, by go_num, by rw [show 2 * (k + 1) = 2 * k + 2 by omega], ?_, HB6.out⟩
     show World.ownsRow _ _ _ _ _ _ _
     rw [HC.out, Lib.byteCells_append, HE.out, show 2 * (k + 1) = 2 * k + 2 by omega]; exact HO6.out
    case measure => simp [intOf]; omega
  ·obtain rfl : k = m := by omega
   have h1 := HO.out
   have hcv := Go.run_convert_bytes_back wr 147 9 5 ⟨g', 0, none⟩ c' (colT (fun i => nx i kb) k) Tryz.underlying147 Tryz.underlying5 Tryz.underlying9 (fun j hj => by
    have := h1.cells rfl j (.int .u8 (colT (fun i => nx i kb) k)[j].toNat) (by simp only [Lib.byteCells, List.getElem?_map, List.getElem?_eq_getElem hj]; rfl)
    exact this)
   rw [colT_len] at hcv
   clear h1 HO
   go_wp2
   go_ret
   exact ⟨rfl, HB.out⟩
end Go.Proofs.YtejdfpieblkapaaGreatDoor

/- The number of a state. -/
namespace Go.Proofs.YtejdfpieblkapaaGreatDoor
open Lib renaming hid → zh
open Go.RowKit Go.Shelf

def MpF1 (f : Value → Option Value) (l : List (List UInt8)) : Prop := ∀ t, f (tx t) = if t ∈ l then some (pv (l.idxOf t + 1)) else none
theorem MpF1.put {f f' : Value → Option Value} {l : List (List UInt8)} {t : List UInt8} (h : MpF1 f l) (ht : t ∉ l) (h1 : f' (tx t) = some (pv (l.length + 1))) (h2 : ∀ k, k ≠ tx t → f' k = f k) : MpF1 f' (l ++ [t]) := by
 intro u
 by_cases hu : u = t
 ·subst hu
  rw [h1, if_pos (by simp), List.idxOf_append, if_neg ht]
  simp
 ·rw [h2 (tx u) (fun e => hu (tx_inj e)), h u]
  by_cases hm : u ∈ l
  ·rw [if_pos hm, if_pos (by simp [hm]), List.idxOf_append, if_pos hm]
  ·rw [if_neg hm, if_neg (by simp [hm, hu])]
theorem idx_map : ∀ (l : List (List Nat)) (a : List Nat), (∀ s ∈ l, ∀ x ∈ s, x < 2 ^ 64) → (∀ x ∈ a, x < 2 ^ 64) → (l.map txt).idxOf (txt a) = l.idxOf a
 | [], a, _, _ => by simp
 | s :: l, a, h, ha => by
  have ih := idx_map l a (fun t ht => h t (List.mem_cons_of_mem _ ht)) ha
  rw [List.map_cons, List.idxOf_cons, List.idxOf_cons, ih]
  by_cases e : s = a
  ·subst e; simp
  ·have : txt s ≠ txt a := fun h2 => e (txt_inj s a (h s (List.mem_cons_self ..)) ha h2)
   have e1 : (txt s == txt a) = false := by simpa using this
   have e2 : (s == a) = false := by simpa using e
   rw [e1, e2]
theorem mk_cell {w : World} {mk i : Nat} {cs : List Value} {v : Value} (h : w.heap[mk]? = some (.cells cs.toArray 108 (0, 0))) (hi : cs[i]? = some v) : w.cell? ⟨mk, i, none⟩ = some v ∧ w.frozen? ⟨mk, i, none⟩ = false := by
 refine ⟨?_, Lib.frozen_of_heap h i⟩
 rw [Lib.cell_of_heap h]
 simpa using hi
theorem mk_put {w : World} {mk i : Nat} {cs : List Value} (v : Value) (h : w.heap[mk]? = some (.cells cs.toArray 108 (0, 0))) : (w.setCell ⟨mk, i, none⟩ v).heap[mk]? = some (.cells (cs.set i v).toArray 108 (0, 0)) := by
 rw [set_heap w mk i _ _ _ _ h]
 simp

set_option maxRecDepth 100000 in
set_option maxHeartbeats 2000000 in
theorem number_any (w : World) (mk mp B ga nw : Nat) (cs xs : List Value) (v5 : Value) (sts : List (List Nat)) (f : Value → Option Value) (at' : List Nat)
  (hmk : w.heap[mk]? = some (.cells cs.toArray 108 (0, 0))) (h4 : cs[259]? = some (.map (some mp))) (h5 : cs[260]? = some v5)
  (hmp : MpAt w mp StrK f sts.length) (hf : MpF1 f (sts.map txt)) (how : w.ownsRow B 87 1 v5 (sts.length + 1) xs) (hB : B ≤ w.heap.size)
  (hsw : ∀ s ∈ sts, ∀ x ∈ s, x < 2 ^ 64) (hs : sts.length ≤ 100000) (ha : BsAt w ga at') (hla : at'.length = nw) (hnw : nw ≤ 20000) :
  Calls Tryz.prog 96 #[ptr mk, bsV ga nw] w fun e w' =>
   (at'.all (· == 0) = true ∧ e = .returned (av none) ∧ w' = w) ∨
   (at'.all (· == 0) = false ∧ at' ∈ sts ∧ e = .returned (pv (sts.idxOf at' + 1)) ∧ Below w.heap.size w w') ∨
   (at'.all (· == 0) = false ∧ at' ∉ sts ∧ e = .returned (pv (sts.length + 1)) ∧ ∃ v5' f', w'.heap[mk]? = some (.cells (cs.set 260 v5').toArray 108 (0, 0)) ∧ MpAt w' mp StrK f' (sts.length + 1) ∧ MpF1 f' ((sts ++ [at']).map txt) ∧
    w'.ownsRow B 87 1 v5' (sts.length + 2) (xs ++ [bsV ga nw]) ∧ Kb (fun i => i = mk ∨ i = mp ∨ v5.ownBlock = some i) w w' ∧ (∀ g, v5'.ownBlock = some g → v5.ownBlock = some g ∨ w.heap.size ≤ g)) := by
 have hin : at' ∈ sts ↔ txt at' ∈ sts.map txt := by
  rw [List.mem_map]
  constructor
  ·intro h; exact ⟨_, h, rfl⟩
  ·rintro ⟨s, h1, h2⟩
   rw [← txt_inj s at' (hsw s h1) ha.2 h2]; exact h1
 have hix : at' ∈ sts → (sts.map txt).idxOf (txt at') = sts.idxOf at' := fun _ => idx_map sts at' hsw ha.2
 have HN := zh (none_any w ga nw at' ha hla (by omega))
 have HT := zh (bs_text w ga nw at' ha hla.symm hnw)
 obtain ⟨A, c, hv, hcap, hcap2⟩ := own_form how
 subst hv
 have HMK := zh hmk; have HMP := zh hmp; have HF := zh hf; have HOW := zh how; have HIN := zh hin; have HIX := zh hix
 have H4 := zh h4; have H5 := zh h5
 obtain ⟨i0, hi0, hz0, hz1, hz2⟩ := info_parts Tryz.info87
 have HI := zh hi0; have HZ0 := zh hz0; have HZ1 := zh hz1; have HZ2 := zh hz2
 obtain ⟨β, hβ⟩ : ∃ β, β = at'.all (· == 0) := ⟨_, rfl⟩
 rw [← hβ] at HN ⊢
 clear hi0 hz0 hz1 hz2 hmk hmp hf how hin hix h4 h5 hsw ha hla hβ
 cases β with
 | true =>
  go_enter Tryz.func96, Tryz.ntmps96
  go_wp2_with fail
  refine HN.out.mono ?_
  rintro e w1 ⟨rfl, rfl⟩
  go_wp2_with fail
  go_ret
  exact .inl ⟨trivial, rfl, rfl⟩
 | false =>
  go_enter Tryz.func96, Tryz.ntmps96
  go_wp2_with fail
  refine HN.out.mono ?_
  rintro e w1 ⟨rfl, rfl⟩
  go_wp2_with fail
  refine HT.out.mono ?_
  rintro e w2 ⟨rfl, hb2⟩
  have HMK2 := zh ((hb2.block _ (lt_of_heap HMK.out)).trans HMK.out)
  have HMP2 := zh (HMP.out.keep (hb2.block _ HMP.out.lt) (fun _ h => h))
  have HOW2 := zh (own_kb HOW.out (Kb.of_below (fun _ => False) hb2) (fun _ _ h => h))
  have HB2 := zh hb2
  obtain ⟨c4, f4⟩ := mk_cell HMK2.out H4.out
  obtain ⟨c5, f5⟩ := mk_cell HMK2.out H5.out
  clear hb2 HN HT
  by_cases hm : at' ∈ sts
  ·have HM := zh hm
   have HL := zh (show (if true = true then Value.tuple #[(f (tx (txt at'))).getD (.int .i64 0), .bool (f (tx (txt at'))).isSome] else (f (tx (txt at'))).getD (.int .i64 0)) = .tuple #[pv (sts.idxOf at' + 1), .bool true] by rw [HF.out, if_pos (HIN.out.1 hm), HIX.out hm]; rfl)
   clear hm
   obtain ⟨ix, hixe⟩ : ∃ ix, ix = sts.idxOf at' + 1 := ⟨_, rfl⟩
   have hpv : pv (sts.idxOf at' + 1) = pv ix := by rw [hixe]
   rw [hpv] at HL
   have HPV := zh hpv
   clear hixe hpv
   go_wp2_with (at_lookup; refine wpList_mp_look _ rfl _ _ 106 true rfl (keyIn_str Tryz.underlying9) Tryz.underlying106 (Tryz.zeroValue3 _) rfl HMP2.out (tx (txt at')) rfl ⟨_, rfl⟩ (.tuple #[pv ix, .bool true]) HL.out ?_)
   go_ret
   exact .inr (.inl ⟨trivial, HM.out, by rw [HPV.out]; rfl, HB2.out⟩)
  ·have HM := zh hm
   have HL := zh (show (if true = true then Value.tuple #[(f (tx (txt at'))).getD (.int .i64 0), .bool (f (tx (txt at'))).isSome] else (f (tx (txt at'))).getD (.int .i64 0)) = .tuple #[.int .i64 0, .bool false] by rw [HF.out, if_neg (fun h => hm (HIN.out.2 h))]; rfl)
   clear hm
   obtain ⟨n, hn⟩ : ∃ n, n = sts.length + 1 := ⟨_, rfl⟩
   rw [← hn] at HOW2 c5
   have hnb : n ≤ 100001 := by omega
   have HNN := zh hn
   clear hn
   have hne1 : mk ≠ mp := fun e => by
    obtain ⟨es, clock, hb, _⟩ := HMP2.out
    rw [← e, HMK2.out] at hb; cases hb
   go_wp2_with (first
     | (at_lookup; refine wpList_mp_look _ rfl _ _ 106 true rfl (keyIn_str Tryz.underlying9) Tryz.underlying106 (Tryz.zeroValue3 _) rfl HMP2.out (tx (txt at')) rfl ⟨_, rfl⟩ (.tuple #[.int .i64 0, .bool false]) HL.out ?_)
     | (at_mapUpdate; refine wpList_mp_store _ rfl _ _ _ 106 rfl (keyIn_str Tryz.underlying9) Tryz.underlying106 rfl HMP2.out (tx (txt at')) (pv n) rfl rfl ⟨_, rfl⟩ ?_; intro w3 f3 q1 q2 q3 q4; have hk3 := Kb.of_grown q4.grown; have HMK3 := zh ((hk3.block mk (lt_of_heap HMK2.out) (fun e => hne1 (by injection e))).trans HMK2.out); have HOW3 := zh (own_kb HOW2.out hk3 (fun g hg e => by obtain ⟨_, cs', h⟩ := own_ty HOW2.out hg; obtain ⟨es, clock, hb, _⟩ := HMP2.out; injection e with e; rw [e, hb] at h; cases h)); have HK3 := zh hk3; have Q1 := zh q1; have Q2 := zh q2; have Q3 := zh q3; obtain ⟨d5, g5⟩ := mk_cell HMK3.out H5.out; rw [← HNN.out] at d5; have hz3 := HK3.out.size; have hz2 := HB2.out.size; clear q1 q2 q3 q4 hk3 c4 f4 c5 f5)
     | (at_builtin; refine wpList_append_lies _ rfl _ _ 76 rfl B 87 i0 _ 1 24 Tryz.underlying76 HI.out HZ0.out HZ1.out HZ2.out rfl (by omega) (.slice A n c) n xs rfl (HOW3.out.alloc _) ⟨w3.heap.size, 0, none⟩ 1 1 [bsV ga nw] rfl rfl (World.news_of_block (cs := #[bsV ga nw]) (t := 87) (fr := (0, 0)) (heap_alloc_new w3 _)) (by simp [Value.oneCell']) (by omega) (by unfold maxLen; omega) (by omega) (by simp; omega) (w3.heap.size + 1) (by simp) ?_; intro gg cap6 w6 hown6 hgrow6 hat6 hlt6; have hg6 := grown_kb hgrow6; have HMK6 := zh ((hg6.block mk (lt_of_heap HMK3.out) (fun e => by obtain ⟨_, cs', h⟩ := own_ty HOW3.out e.symm; rw [HMK3.out] at h; injection h with h; injection h with _ h; cases h)).trans HMK3.out); have HMP6 := zh (Q1.out.keep (hg6.block mp Q1.out.lt (fun e => by obtain ⟨_, cs', h⟩ := own_ty HOW3.out e.symm; obtain ⟨es, clock, hb, _⟩ := Q1.out; rw [hb] at h; cases h)) (fun _ h => h)); have HG6 := zh hg6; have HO6 := zh hown6; have HA6 := zh hat6; obtain ⟨d5, g5⟩ := mk_cell HMK6.out H5.out; clear hg6 hown6 hgrow6 hat6 hlt6))
   go_ret
   have hown7 : (w6.setCell ⟨mk, 260, none⟩ (.slice (some ⟨gg, 0, none⟩) (n + 1) cap6)).ownsRow B 87 1 (.slice (some ⟨gg, 0, none⟩) (n + 1) cap6) (n + 1) (xs ++ [bsV ga nw]) := own_kb HO6.out (Kb.setCell w6 ⟨mk, 260, none⟩ _) (fun g hg e => by
    obtain ⟨_, cs', h⟩ := own_ty HO6.out hg
    rw [show g = mk from e, HMK6.out] at h
    injection h with h; injection h with _ h; cases h)
   have hmk7 : (w6.setCell ⟨mk, 260, none⟩ (.slice (some ⟨gg, 0, none⟩) (n + 1) cap6)).heap[mp]? = w6.heap[mp]? := Below.heap_setCell _ _ _ _ (fun e => hne1 e.symm)
   have hq1 := HMP6.out
   rw [HF.out, if_neg (fun h => HM.out (HIN.out.2 h))] at hq1
   refine .inr (.inr ⟨trivial, HM.out, by rw [← HNN.out]; rfl, .slice (some ⟨gg, 0, none⟩) (n + 1) cap6, f3, mk_put _ HMK6.out, hq1.keep hmk7 (fun _ h => h), ?_, ?_, ?_, ?_⟩)
   ·rw [List.map_append]
    exact HF.out.put (fun h => HM.out (HIN.out.2 h)) (by rw [Q2.out, List.length_map, ← HNN.out]) Q3.out
   ·rw [show sts.length + 2 = n + 1 by rw [HNN.out]]; exact hown7
   ·rw [← HNN.out]
    exact ((((Kb.of_below _ HB2.out).trans HK3.out (fun i _ h => .inr (.inl (by injection h)))).trans HG6.out (fun i _ h => .inr (.inr h.symm))).trans (Kb.setCell w6 ⟨mk, 260, none⟩ _) (fun i _ h => .inl h))
   ·intro g hg
    rw [← HNN.out]
    have e : gg = g := by simpa [Value.ownBlock] using hg
    subst e
    rcases HA6.out with h | h
    ·exact .inl h
    ·exact .inr (by omega)
end Go.Proofs.YtejdfpieblkapaaGreatDoor
