/- What is forgotten: the first steps, where there are too many. -/
import Derived.Test.YtpifobaejmfppaaN22
import Derived.Shelf.SlicesE.Delete
namespace Go.Proofs
open Go.Shelf
def Try.delV_ren : Go.Shelf.Ren := ⟨fun | 45 => 81 | n => n, fun | 22 => 89 | 23 => 22 | 3 => 3 | 4 => 4 | 0 => 0 | n => n, fun | n => n⟩
theorem Try.delV : Go.Proofs.SlLaysE.n45 Try.prog Try.delV_ren := {
  mixed := by kernel_rfl
  f45 := ⟨Try.f81.name, by decide, Try.func81.trans (congrArg some (by kernel_rfl))⟩
  t0 := Try.underlying0
  a0 := Try.isAgg0
  z0 := Try.sizeOf0
  v0 := Try.zeroValue0
  t3 := Try.underlying3
  a3 := Try.isAgg3
  z3 := Try.sizeOf3
  v3 := Try.zeroValue3
  t4 := Try.underlying4
  a4 := Try.isAgg4
  z4 := Try.sizeOf4
  v4 := Try.zeroValue4
  t22 := Try.underlying89
  a22 := Try.isAgg89
  z22 := Try.sizeOf89
  v22 := Try.zeroValue89
  a23 := Try.isAgg22
  z23 := Try.sizeOf22 }
end Go.Proofs
namespace Go.Proofs.Ytpifobaejmfppaa
open Go.RowKit Go.Sort

/-- A slice as data. -/
abbrev Sl := Option Addr × Nat × Nat
def Sl.val (x : Sl) : Value := .slice x.1 x.2.1 x.2.2

theorem sl_list : ∀ (vs : List Value), (∀ v ∈ vs, ∃ B m d, v = .slice B m d) → ∃ ds : List Sl, ds.map Sl.val = vs
  | [], _ => ⟨[], rfl⟩
  | v :: vs, h => by
    obtain ⟨ds, hd⟩ := sl_list vs (fun u hu => h u (List.mem_cons_of_mem _ hu))
    obtain ⟨B, m, d, rfl⟩ := h v (by simp)
    exact ⟨(B, m, d) :: ds, by simp [hd, Sl.val]⟩

theorem put_take (cur : Array Value) (ts : List Sl) (n : Nat) (hn : n ≤ ts.length) (h : ts.length ≤ cur.size) : (putCells Sl.val 0 ts.toArray cur).toList.take n = (ts.take n).map Sl.val := by
  apply List.ext_getElem?
  intro j
  by_cases hj : j < n
  · rw [List.getElem?_take_of_lt hj, Array.getElem?_toList]
    have h1 : j < ts.length := by omega
    simp [putCells, hj, h1, show j < cur.size by omega]
  · rw [List.getElem?_take_eq_none (by omega), List.getElem?_eq_none (by simp; omega)]

set_option maxRecDepth 100000 in
theorem del_any (N g n c : Nat) (v0 : Value) (vs : List Value) (w : World) (ho : w.ownsRow N 22 1 (.slice (some ⟨g, 0, none⟩) (n + 1) c) (n + 1) (v0 :: vs)) (hsl : ∀ v ∈ v0 :: vs, ∃ B m d, v = .slice B m d) :
    Calls Try.prog 81 #[.slice (some ⟨g, 0, none⟩) ((n + 1 : Nat)) c, .int .i64 0, .int .i64 1] w fun e w' => e = .returned (.slice (some ⟨g, 0, none⟩) n c) ∧ w'.ownsRow N 22 1 (.slice (some ⟨g, 0, none⟩) n c) n vs ∧ Kb (fun i => i = g) w w' := by
  obtain ⟨ds, hds⟩ := sl_list _ hsl
  have hdl : ds.length = n + 1 := by have := congrArg List.length hds; have h1 := ho.1; simp at this h1; omega
  rcases ho.2 with ⟨hv, _⟩ | ⟨g', cap, cur, hv, hbb, hg, h1, h2, h3, h4⟩
  · cases hv
  injection hv with hv _ h6
  injection hv with hv
  injection hv with hv
  subst hv
  subst h6
  obtain ⟨i0, hi0, hz0, hz1, hz2⟩ := info_parts Try.info22
  have hH : Holds Sl.val w g 0 ds.toArray := by
    intro j hj
    have hj' : j < ds.length := by simpa using hj
    refine ⟨?_, Lib.frozen_of_heap hg _⟩
    rw [Nat.zero_add, Lib.cell_of_heap hg]
    have e1 : (cur.toList.take ((n + 1) * 1))[j]? = (ds.map Sl.val)[j]? := by rw [h4, hds]
    rw [List.getElem?_take_of_lt (by omega)] at e1
    rw [← Array.getElem?_toList, e1]
    simp [hj']
  have hc := AnyE.slices_Delete Go.Proofs.Try.delV Sl.val (fun _ => rfl) (none, 0, 0) Go.Proofs.Try.zeroValue22 i0 hi0 hz1 g 0 c 0 1 ds.toArray w hH (by simp; omega) (by unfold maxLen at h2; omega) (by omega) (by simp; omega)
  have hsz : ds.toArray.size = n + 1 := by simp [hdl]
  rw [hsz] at hc
  refine Calls.mono (P := Try.prog) (f := 81) hc ?_
  rintro e w' ⟨rfl, q, rfl⟩
  have hd' : ds.toArray.toList.take 0 ++ ds.toArray.toList.drop 1 ++ List.replicate (1 - 0) ((none, 0, 0) : Sl) = ds.drop 1 ++ [(none, 0, 0)] := by simp
  rw [hd']
  refine ⟨rfl, ⟨by have := ho.1; simp at this; omega, .inr ⟨g, c, putCells Sl.val 0 (ds.drop 1 ++ [(none, 0, 0)]).toArray cur, rfl, hbb, ?_, by omega, h2, ?_, ?_⟩⟩, ⟨rfl, rfl, rfl, by simp [Sort.ahead], fun i hi hn => ?_⟩⟩
  · simp [putRow, mapBlock, Sort.ahead, Array.getElem?_modify, hg, onCells]
  · simp [putCells]; omega
  · rw [Nat.mul_one, put_take _ _ _ (by simp; omega) (by simp; omega), List.take_append_of_le_length (by simp; omega), List.take_of_length_le (by simp; omega)]
    have hds' := congrArg (List.drop 1) hds
    simpa using hds'
  · have : g ≠ i := fun e => hn e.symm
    simp [putRow, mapBlock, Sort.ahead, Array.getElem?_modify, this]

set_option maxHeartbeats 1000000 in
/-- One step is forgotten. -/
theorem forget_one (N Bf g n c : Nat) (v0 : Value) (vs : List Value) (f pc : Value) (made sz : Int) (w : World) (hbf : BfAt w Bf (.slice (some ⟨g, 0, none⟩) (n + 1) c) f made pc sz) (ho : w.ownsRow N 22 1 (.slice (some ⟨g, 0, none⟩) (n + 1) c) (n + 1) (v0 :: vs)) (hsl : ∀ v ∈ v0 :: vs, ∃ B m d, v = .slice B m d) (hn : n ≤ 1048576) :
    Calls Try.prog 72 #[.pointer (some ⟨Bf, 0, none⟩), .int .i64 n] w fun e w' => e = .returned (.tuple #[]) ∧ BfAt w' Bf (.slice (some ⟨g, 0, none⟩) n c) f made pc sz ∧ w'.ownsRow N 22 1 (.slice (some ⟨g, 0, none⟩) n c) n vs ∧ Kb (fun i => i = Bf ∨ i = g) w w' := by
  have HD := Lib.hid (del_any N g n c v0 vs w ho hsl)
  have c0 := hbf.c0
  have hne := own_ne_bf ho hbf (by decide)
  have hgB : g ≠ Bf := fun e => hne (by rw [e]; rfl)
  have HB := Lib.hid hbf
  clear hbf ho hsl hne
  obtain ⟨n1, hn1⟩ : ∃ n1, n1 = n + 1 := ⟨_, rfl⟩
  rw [← hn1] at c0 HD
  have p1 : IntKind.i64.wrap ((n1 : Int) - (n : Int)) = 1 := by rw [IntWalk.i64_in _ (by omega)]; omega
  have HN1 := Lib.hid hn1
  clear hn1
  go_enter Try.func72, Try.ntmps72
  go_wp2_with fail
  refine HD.out.mono ?_
  rintro e w1 ⟨rfl, ho1, hk1⟩
  have hb1 := HB.out.kb hk1 (fun e => hgB e.symm)
  have d0 := hb1.c0
  have f0 := hb1.fz 0
  have HB1 := Lib.hid hb1; have HO1 := Lib.hid ho1; have HK1 := Lib.hid hk1
  clear hb1 ho1 hk1 HD
  go_wp2
  go_end0
  refine ⟨rfl, HB1.out.s0 _, own_kb HO1.out (Kb.setCell w1 ⟨Bf, 0, none⟩ _) (fun q hq he => ?_), (HK1.out.wider (fun i h => .inr h)).trans (Kb.setCell w1 ⟨Bf, 0, none⟩ _) (fun i _ h => .inl h)⟩
  have : g = q := by simpa [Value.ownBlock] using hq
  exact hgB (this.trans he)

theorem steps_sl {w : World} : ∀ {vr : List Value} {ps : List St}, Steps w vr ps → ∀ v ∈ vr, ∃ B m d, v = .slice B m d
  | [], [], _, v, hv => by cases hv
  | u :: vs, s :: ss, h, v, hv => by
    rcases List.mem_cons.1 hv with rfl | hv
    · obtain ⟨B, d, rfl, _⟩ := h.1
      exact ⟨B, _, d, rfl⟩
    · exact steps_sl h.2 v hv
  | [], _ :: _, h, _, _ => h.elim
  | _ :: _, [], h, _, _ => h.elim

set_option maxRecDepth 100000 in
set_option maxHeartbeats 2000000 in
/-- A new step, where the first one is forgotten. -/
theorem done_full (Bf : Nat) (A : Option Addr) (c base : Nat) (v0 : Value) (vs : List Value) (f pc : Value) (made sz : Int) (B : Option Addr) (m d : Nat) (w : World) (hbf : BfAt w Bf (.slice A 1000 c) f made pc sz) (hown : w.ownsRow base 22 1 (.slice A 1000 c) 1000 (v0 :: vs)) (hbase : base ≤ w.heap.size) (hsl : ∀ v ∈ v0 :: vs, ∃ B m d, v = .slice B m d) (hm : m ≤ 1099511627776) (h0 : -1099511627776 ≤ made) (h1 : made ≤ 1099511627776) :
    Calls Try.prog 56 #[.pointer (some ⟨Bf, 0, none⟩), .slice B m d] w fun e w' => e = .returned (.tuple #[]) ∧ ∃ g c', BfAt w' Bf (.slice (some ⟨g, 0, none⟩) 1000 c') (.slice none 0 0) (made + m) pc sz ∧ w'.ownsRow base 22 1 (.slice (some ⟨g, 0, none⟩) 1000 c') 1000 (vs ++ [.slice B m d]) ∧ Kb (fun i => i = Bf ∨ some i = (Value.slice A 1000 c).ownBlock) w w' ∧ ((Value.slice A 1000 c).ownBlock = some g ∨ w.heap.size ≤ g) := by
  have HC := Lib.hid (redone_any Bf A 1000 c base (v0 :: vs) f pc made sz B m d w hbf hown hbase (by omega) hm h0 h1)
  have HSL := Lib.hid (show ∀ v ∈ v0 :: (vs ++ [Value.slice B m d]), ∃ B m d, v = .slice B m d from fun v hv => by
    rcases List.mem_cons.1 hv with rfl | hv
    · exact hsl _ (by simp)
    · rcases List.mem_append.1 hv with hv | hv
      · exact hsl v (List.mem_cons_of_mem _ hv)
      · exact ⟨B, m, d, by simpa using hv⟩)
  clear hbf hown
  go_enter Try.func56, Try.ntmps56
  go_wp2_with fail
  refine HC.out.mono ?_
  rintro e w1 ⟨rfl, g, c', hb1, ho1, hk1, hg1⟩
  have HB := Lib.hid hb1; have HO := Lib.hid ho1; have HK := Lib.hid hk1; have HG := Lib.hid hg1
  clear hb1 ho1 hk1 hg1 HC
  go_wp2_with fail
  refine (forget_one base Bf g 1000 c' v0 (vs ++ [Value.slice B m d]) _ _ _ _ w1 HB.out HO.out HSL.out (by omega)).mono ?_
  rintro e w2 ⟨rfl, hb2, ho2, hk2⟩
  have HB2 := Lib.hid hb2; have HO2 := Lib.hid ho2; have HK2 := Lib.hid hk2
  clear hb2 ho2 hk2
  go_wp2_with fail
  refine (drop_stack Bf 1 _ _ HB2.out.c1 (HB2.out.fz 1)).mono ?_
  rintro e w3 ⟨rfl, rfl⟩
  go_wp2
  go_end0
  have hne3 := own_ne_bf HO2.out HB2.out (by decide)
  refine ⟨rfl, g, c', HB2.out.s1 _, own_kb HO2.out (Kb.setCell _ ⟨Bf, 1, none⟩ _) (fun q hq he => hne3 (hq.trans (congrArg some he)).symm), ?_, HG.out⟩
  refine (HK.out.trans HK2.out (fun i hi h => ?_)).trans (Kb.setCell _ ⟨Bf, 1, none⟩ _) (fun i _ h => .inl h)
  rcases h with h | h
  · exact .inl h
  · rcases HG.out with h' | h'
    · exact .inr (by rw [h', h])
    · omega
end Go.Proofs.Ytpifobaejmfppaa
