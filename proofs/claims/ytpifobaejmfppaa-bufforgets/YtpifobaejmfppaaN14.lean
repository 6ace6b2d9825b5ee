/- What slices.Concat makes of pieces. -/
import Derived.Test.YtpifobaejmfppaaN13
import Derived.Shelf.Spec.SlicesGrow
import Derived.Deep.AppendLies
namespace Go.Proofs
open Go.Shelf
def Try.growB_ren : Go.Shelf.Ren := ⟨fun | 4 => 82 | n => n, fun | 22 => 64 | 25 => 5 | 3 => 3 | 4 => 4 | 9 => 9 | 20 => 20 | 0 => 0 | n => n, fun | n => n⟩
theorem Try.growB : Go.Proofs.Lays8.n4 Try.prog Try.growB_ren := {
  mixed := by kernel_rfl
  f4 := ⟨Try.f82.name, by decide, Try.func82.trans (congrArg some (by kernel_rfl))⟩
  t0 := Try.underlying0
  a0 := Try.isAgg0
  z0 := Try.sizeOf0
  v0 := Try.zeroValue0
  t3 := Try.underlying3
  a3 := Try.isAgg3
  z3 := Try.sizeOf3
  v3 := Try.zeroValue3
  t4 := Try.underlying4
  a4 := Try.isAgg4
  z4 := Try.sizeOf4
  v4 := Try.zeroValue4
  t9 := Try.underlying9
  a9 := Try.isAgg9
  z9 := Try.sizeOf9
  v9 := Try.zeroValue9
  t20 := Try.underlying20
  a20 := Try.isAgg20
  z20 := Try.sizeOf20
  v20 := Try.zeroValue20
  t22 := Try.underlying64
  a22 := Try.isAgg64
  z22 := Try.sizeOf64
  v22 := Try.zeroValue64 }
end Go.Proofs
namespace Go.Proofs.Ytpifobaejmfppaa
open Go.RowKit

theorem Try.info5 : (Try.prog.info? 5).map (fun i => (i.zero, i.size, i.bytes)) = some (some (.int .u8 0), 1, 1) := by kernel_rfl

set_option maxRecDepth 100000 in
theorem grow_any (n : Nat) (w : World) (hn : 0 < n) (hn1 : n ≤ 1099511627776) :
    Calls Try.prog 82 #[.slice none 0 0, .int .i64 n] w fun e w' => ∃ cap, e = .returned (.slice (some ⟨w.heap.size, 0, none⟩) 0 cap) ∧ w'.ownsRow w.heap.size 5 1 (.slice (some ⟨w.heap.size, 0, none⟩) 0 cap) 0 [] ∧ Below w.heap.size w w' := by
  obtain ⟨i0, hi0, hz0, hz1, hz2⟩ := info_parts Try.info5
  have h := Any8.slices_Grow_grow Go.Proofs.Try.growB i0 (.int .u8 0) hi0 hz0 (by omega) none 0 0 n [] w (Nat.le_refl _) (by omega) (by rw [hz2]; omega) (by omega) (by simp) (fun _ => rfl) (fun a h => by cases h)
  refine Calls.mono (P := Try.prog) (f := 82) h ?_
  rintro e w' ⟨rfl, rfl⟩
  obtain ⟨cp, hcp⟩ : ∃ cp, cp = grownCap w (0 + n) 0 (Go.Proofs.Try.growB_ren.t 25) := ⟨_, rfl⟩
  rw [← hcp]
  have hc1 : n ≤ cp := by rw [hcp]; have := grownCap_ge w (0 + n) 0 (Go.Proofs.Try.growB_ren.t 25); omega
  have hc2 : cp ≤ maxLen := by rw [hcp]; exact grownCap_le_maxLen w (0 + n) 0 _ (by unfold maxLen; omega)
  obtain ⟨Z, hZ⟩ : ∃ Z, Z = #[] ++ Builtin.zeroCells (Value.int .u8 0).cells (0 + n - 0) ++ Builtin.zeroCells (Value.int .u8 0).cells (cp - (0 + n)) := ⟨_, rfl⟩
  have hZ1 : Z.size = cp := by rw [hZ]; simp [Builtin.zeroCells, Value.cells]; omega
  have hZ2 := hZ.symm
  simp only [List.toArray] at hZ2
  refine ⟨cp, rfl, ⟨rfl, .inr ⟨w.heap.size, cp, Z, rfl, Nat.le_refl _, ?_, Nat.zero_le _, hc2, by omega, by simp⟩⟩, (Below.refl _ w).drew.alloc (Nat.le_refl _) _⟩
  rw [hZ]
  show (w.heap.push _)[w.heap.size]? = _
  simp
  rfl

theorem bc_one (l : List UInt8) : ∀ u ∈ Lib.byteCells l, u.oneCell' = true := fun u hu => by
  obtain ⟨j, hj⟩ := List.mem_iff_getElem?.1 hu
  obtain ⟨b, _, rfl⟩ := bc_get _ _ _ hj
  rfl
theorem pc_cells {w : World} {q : Pc} (h : PcAt w q) : ∀ (j : Nat) (u : Value), (Lib.byteCells q.bs)[j]? = some u → w.cell? ((⟨q.g, q.o, none⟩ : Addr).add j) = some u := by
  intro j u hj
  obtain ⟨b, hb1, rfl⟩ := bc_get _ _ _ hj
  obtain ⟨cur, fz, hgg, hcur⟩ := h
  have : (⟨q.g, q.o, none⟩ : Addr).add j = ⟨q.g, q.o + j, none⟩ := by unfold Addr.add; split <;> simp_all
  rw [this, Lib.cell_of_heap hgg]
  exact hcur j b hb1
theorem pcText_take_succ {L : List Pc} {k : Nat} {q : Pc} (h : L[k]? = some q) : pcText (L.take (k + 1)) = pcText (L.take k) ++ q.bs := by
  rw [take_snoc_of h, pcText_append]; simp [pcText]
theorem pcText_take_le (L : List Pc) (k : Nat) : (pcText (L.take k)).length ≤ (pcText L).length := by
  have := congrArg List.length (pcText_append (L.take k) (L.drop k))
  rw [List.take_append_drop, List.length_append] at this
  omega

set_option maxRecDepth 100000 in
set_option maxHeartbeats 2000000 in
theorem concat_any (g n c : Nat) (L : List Pc) (T : List UInt8) (w : World) (hln : L.length = n) (hcells : ∀ (j : Nat) (q : Pc), L[j]? = some q → w.cell? ⟨g, j, none⟩ = some q.val) (hg : g < w.heap.size) (hpc : ∀ q ∈ L, PcAt w q ∧ 0 < q.bs.length ∧ q.bs.length ≤ 1099511627776) (hT : pcText L = T) (hmx : T.length ≤ 1048576) (h0 : 0 < T.length) (hnc : n ≤ c) (hcm : c ≤ 9223372036854775807) :
    Calls Try.prog 75 #[.slice (some ⟨g, 0, none⟩) n c] w fun e w' => ∃ g' cap, e = .returned (.slice (some ⟨g', 0, none⟩) T.length cap) ∧ w'.ownsRow w.heap.size 5 1 (.slice (some ⟨g', 0, none⟩) T.length cap) T.length (Lib.byteCells T) ∧ Below w.heap.size w w' := by
  obtain ⟨i0, hi0, hz0, hz1, hz2⟩ := info_parts Try.info5
  have HI := Lib.hid hi0; have HZ0 := Lib.hid hz0; have HZ1 := Lib.hid hz1; have HZ2 := Lib.hid hz2
  clear hi0 hz0 hz1 hz2
  have HL := Lib.hid hln; have HC := Lib.hid hcells; have HPC := Lib.hid hpc; have HT := Lib.hid hT
  clear hln hcells hpc hT
  obtain ⟨z, hz⟩ : ∃ z, z = T.length := ⟨_, rfl⟩
  rw [← hz] at hmx h0 ⊢
  have HZ := Lib.hid hz; clear hz
  go_enter Try.func75, Try.ntmps75
  go_wp2_with fail
  go_loopw [3, 11] (fun v i wr => ∃ (k x : Nat), k ≤ n ∧ i = .int .i64 k ∧ v = .int .i64 x ∧ x ≤ z ∧ Hid (x = (pcText (L.take k)).length) ∧ w = wr) (fun _ i _ => n - (intOf i).toNat)
  case atStart => exact ⟨0, 0, Nat.zero_le _, rfl, rfl, Nat.zero_le _, rfl, rfl⟩
  case round =>
    obtain ⟨k, x, hk, rfl, rfl, hx, HX, rfl⟩ := hrel
    by_cases hlt : k < n
    · obtain ⟨q, hq⟩ := get_some L k (by rw [HL.out]; exact hlt)
      have cq := HC.out k q hq
      unfold Pc.val at cq
      have hle := pcText_take_le L (k + 1)
      rw [HT.out, pcText_take_succ hq, List.length_append, ← HX.out, ← HZ.out] at hle
      have hx2 := Lib.hid (show x + q.bs.length = (pcText (L.take (k + 1))).length by rw [pcText_take_succ hq, List.length_append, ← HX.out])
      obtain ⟨ql, hql⟩ : ∃ ql, ql = q.bs.length := ⟨_, rfl⟩
      rw [← hql] at cq hle hx2
      clear hql
      have p1 : IntKind.i64.wrap ((x : Int) + (ql : Int)) = (x : Int) + (ql : Int) := IntWalk.i64_in _ (by omega)
      have p2 : decide ((x : Int) + (ql : Int) < 0) = false := by simp; omega
      go_wp2
      go_roundw
      case rel => exact ⟨k + 1, x + ql, by omega, by go_num, by go_num, by omega, hx2.out, trivial⟩
      case measure => simp [intOf]; omega
    · have hkn : k = n := by omega
      have hxz : x = z := by
        rw [HX.out, HZ.out, ← HT.out, hkn, ← HL.out, List.take_length]
      subst hxz
      clear HX
      go_wp2_with fail
      refine (grow_any x _ h0 (by omega)).mono ?_
      rintro e w1 ⟨cap, rfl, hown, hb⟩
      have HO := Lib.hid hown; clear hown
      go_wp2_with fail
      go_loopw [6, 27] (fun v i wr => ∃ (k : Nat) (g' c' m : Nat), k ≤ n ∧ i = .int .i64 k ∧ v = .slice (some ⟨g', 0, none⟩) m c' ∧ Hid (m = (pcText (L.take k)).length) ∧ Hid (wr.ownsRow w.heap.size 5 1 (.slice (some ⟨g', 0, none⟩) m c') m (Lib.byteCells (pcText (L.take k)))) ∧ Below w.heap.size w wr) (fun _ i _ => n - (intOf i).toNat)
      case atStart => exact ⟨0, _, _, 0, Nat.zero_le _, rfl, rfl, rfl, HO.out, hb⟩
      case round =>
        clear hb HO
        obtain ⟨k, g', c', m, hk, rfl, rfl, HM, HO, hb⟩ := hrel
        by_cases hlt : k < n
        · obtain ⟨q, hq⟩ := get_some L k (by rw [HL.out]; exact hlt)
          have hqm := List.mem_of_getElem? hq
          have cq := (hb.cell (p := ⟨g, k, none⟩) hg).trans (HC.out k q hq)
          unfold Pc.val at cq
          have hle := pcText_take_le L (k + 1)
          rw [HT.out, pcText_take_succ hq, List.length_append, ← HM.out, ← HZ.out] at hle
          have HQ := Lib.hid (pcText_take_succ hq)
          have HP := Lib.hid ((HPC.out q hqm).1.keep (hb.block _ (pc_lt (HPC.out q hqm).1)))
          have hl0 := (HPC.out q hqm).2.1
          obtain ⟨ql, hql⟩ : ∃ ql, ql = q.bs.length := ⟨_, rfl⟩
          rw [← hql] at cq hle hl0
          have HQL := Lib.hid hql
          clear hql hq hqm
          have hzb := hb.size
          go_wp2_with (at_builtin; refine wpList_append_lies _ rfl _ _ 64 rfl w.heap.size 5 i0 _ 1 1 Try.underlying64 HI.out HZ0.out HZ1.out HZ2.out rfl (by omega) (.slice (some ⟨g', 0, none⟩) m c') m _ rfl HO.out ⟨q.g, q.o, none⟩ ql ql (Lib.byteCells q.bs) rfl (by rw [Lib.byteCells_length, ← HQL.out]; omega) (pc_cells HP.out) (bc_one q.bs) (by omega) (by unfold maxLen; omega) (by omega) (by omega) wr.heap.size rfl ?_)
          intro gg cap6 w6 hown6 hgrow6 hat6 hlt6
          have hb6 : Below w.heap.size w w6 := hb.grown hgrow6 (by omega) (fun g hg => (HO.out.lt g hg).1)
          have HO6 := Lib.hid hown6
          clear hown6 hgrow6 hat6 hlt6
          go_wp2
          go_roundw
          case rel =>
            refine ⟨k + 1, gg, cap6, m + ql, by omega, by go_num, rfl, ?_, ?_, hb6⟩
            · show (_ : Nat) = _
              rw [HQ.out, List.length_append, ← HM.out, ← HQL.out]
            · show World.ownsRow _ _ _ _ _ _ _
              rw [HQ.out, Lib.byteCells_append]; exact HO6.out
          case measure => simp [intOf]; omega
        · have hkn : k = n := by omega
          have hT' : pcText (L.take k) = T := by rw [hkn, ← HL.out, List.take_length, HT.out]
          have hm : m = x := by rw [HM.out, hT', HZ.out]
          subst hm
          have HO' := Lib.hid (show wr.ownsRow w.heap.size 5 1 (.slice (some ⟨g', 0, none⟩) m c') m (Lib.byteCells T) by have := HO.out; rwa [hT'] at this)
          clear HO HM hT'
          go_wp2
          refine bodyPost_ret (v := .slice (some ⟨g', 0, none⟩) m c') (by simp [results, Try.results75, go_sem]) rfl ?_
          exact ⟨g', c', rfl, HO'.out, hb⟩
end Go.Proofs.Ytpifobaejmfppaa
