/- What class reads. -/
import Derived.Test.YtejdfpieblkapaaM22
import Derived.Deep.LoopGhost
import Derived.Laws.AppendOwnNone
import Derived.Laws.IdiomStrings
namespace Go.Proofs.Ytejdfpieblkapaa
open Go.RowKit Go.Shelf

/-- The first k words joined. -/
def Ws.unk (s t : Ws) : Nat → Ws
  | 0 => s
  | 1 => ⟨s.a ||| t.a, s.b, s.c, s.d⟩
  | 2 => ⟨s.a ||| t.a, s.b ||| t.b, s.c, s.d⟩
  | 3 => ⟨s.a ||| t.a, s.b ||| t.b, s.c ||| t.c, s.d⟩
  | _ => s.un t
theorem or64' (x y : Nat) (hx : x < 2 ^ 64) (hy : y < 2 ^ 64) : bits .or .u64 (x : Int) (y : Int) = ((x ||| y : Nat) : Int) := by
  have hw : ∀ y : Nat, y < 2 ^ 64 → IntKind.u64.wrap (y : Int) = (y : Int) := fun y hy => by
    rw [IntKind.wrap_u64]; omega
  have hv : ∀ y : Nat, y < 2 ^ 64 → (BitVec.ofInt 64 (y : Int)).toNat = y := fun y hy => by
    rw [BitVec.ofInt_natCast, BitVec.toNat_ofNat]; exact Nat.mod_eq_of_lt hy
  show IntKind.u64.wrap ((BitVec.ofInt 64 (x : Int) ||| BitVec.ofInt 64 (y : Int)).toNat : Int) = _
  rw [BitVec.toNat_or, hv x hx, hv y hy]
  exact hw _ (Nat.or_lt_two_pow hx hy)

/-- class's state between rounds. -/
def ClAt (w : World) (P : Nat) (s : ByteArray) (ov : Value) (d : Int) (l : Bool) (C0 : Option (Ws × Nat)) (k : Nat) (wr : World) : Prop :=
  ∃ st i, i ≤ s.size ∧ classP s.data.toList k st i = C0 ∧ s.size + 1 ≤ k + i ∧ st.Ok ∧ PsB wr P s i ov d l ∧ wr.heap[w.heap.size]? = some (.cells ws0.cells 41 (0, 0)) ∧ wr.heap[w.heap.size + 1]? = some (.cells st.cells 41 (0, 0)) ∧ Kb (fun j => j = P) w wr

set_option maxRecDepth 100000 in
set_option maxHeartbeats 4000000 in
theorem class_any (w : World) (P : Nat) (s : ByteArray) (i : Nat) (ov : Value) (d : Int) (l : Bool) (h : PsB w P s i ov d l) (hi : i ≤ s.size) (hs : s.size ≤ 1000000) :
    Calls Try.prog 59 #[ptr P] w (WsTo P s ov d l (classF s.data.toList i) w) := by
  have hPl := lt_of_heap h
  have hb : Below w.heap.size w ((w.alloc (.cells #[.int .u64 0, .int .u64 0, .int .u64 0, .int .u64 0] 41)).alloc (.cells #[.int .u64 0, .int .u64 0, .int .u64 0, .int .u64 0] 41)) := ((Below.refl _ w).alloc (Nat.le_refl _) _).alloc (by simp) _
  have ha0 : ((w.alloc (.cells #[.int .u64 0, .int .u64 0, .int .u64 0, .int .u64 0] 41)).alloc (.cells #[.int .u64 0, .int .u64 0, .int .u64 0, .int .u64 0] 41)).heap[w.heap.size]? = some (.cells ws0.cells 41 (0, 0)) := (Below.heap_alloc _ _ _ (by simp)).trans (heap_alloc_new w _)
  have ha1 : ((w.alloc (.cells #[.int .u64 0, .int .u64 0, .int .u64 0, .int .u64 0] 41)).alloc (.cells #[.int .u64 0, .int .u64 0, .int .u64 0, .int .u64 0] 41)).heap[w.heap.size + 1]? = some (.cells ws0.cells 41 (0, 0)) := heap_alloc2_new w _ _
  have hlenL : s.data.toList.length = s.size := by rw [← Lib.size_eq]
  have HT : Calls Try.prog 37 #[ptr P, .int .u8 94] ((w.alloc (.cells #[.int .u64 0, .int .u64 0, .int .u64 0, .int .u64 0] 41)).alloc (.cells #[.int .u64 0, .int .u64 0, .int .u64 0, .int .u64 0] 41)) fun e w1 => ∃ tn i1, e = .returned (.bool tn) ∧ classF s.data.toList i = (if tn = true then (classP s.data.toList (s.size + 1) ws0 i1).map (fun x => (x.1.inv 4, x.2)) else classP s.data.toList (s.size + 1) ws0 i1) ∧ ClAt w P s ov d l (classP s.data.toList (s.size + 1) ws0 i1) (s.size + 1) w1 := by
    by_cases h94 : nx s.data.toList i = 94
    · refine (take_yes _ P 94 s i ov d l (h.below hb) hi hs h94 (by omega)).mono ?_
      rintro e w1 ⟨rfl, h1, h2⟩
      have := nx_in h94 (by omega)
      refine ⟨true, i + 1, rfl, by unfold classF; rw [if_pos h94, hlenL]; rfl, ws0, i + 1, by omega, rfl, by omega, ⟨by decide, by decide, by decide, by decide⟩, h1, (h2.block _ (lt_of_heap ha0) (by omega)).trans ha0, (h2.block _ (lt_of_heap ha1) (by omega)).trans ha1, (Kb.of_below _ hb).trans h2 (fun _ _ h => h)⟩
    · refine (take_no _ P 94 s i ov d l (h.below hb) hi hs h94).mono ?_
      rintro e w1 ⟨rfl, h1, h2⟩
      refine ⟨false, i, rfl, by unfold classF; rw [if_neg h94, hlenL]; rfl, ws0, i, hi, rfl, by omega, ⟨by decide, by decide, by decide, by decide⟩, h1, (h2.block _ (lt_of_heap ha0)).trans ha0, (h2.block _ (lt_of_heap ha1)).trans ha1, (Kb.of_below _ hb).trans (Kb.of_below _ h2) (fun _ _ h => h)⟩
  have HTT := Lib.hid HT
  clear HT h hb ha0 ha1 hlenL
  go_enter Try.func59, Try.ntmps59
  go_wp2_with fail
  refine HTT.out.mono ?_
  rintro e w1 ⟨tn, i1, rfl, hcl, hat⟩
  have HCL := Lib.hid hcl; have HAT := Lib.hid hat
  clear hcl hat HTT
  generalize classP s.data.toList (s.size + 1) ws0 i1 = C0 at HCL HAT
  go_wp2_with fail
  go_loopg [] (s.size + 1) (fun k wr => ClAt w P s ov d l C0 k wr)
  case atStart => exact HAT.out
  case round =>
    obtain ⟨st, i2, hi2, hcp, hk, hok, hps, hA, hC, hK⟩ := hrel
    obtain ⟨z0, z1, z2, z3, f0, f1, f2, f3⟩ := ws_cells hC
    have heq := fun w' => eql_ws st w'
    rcases gk with _ | gk
    · omega
    by_cases h0 : st = ws0
    · have hcpb : C0 = (lettersF s.data.toList i2).bind (fun x => classP s.data.toList gk (st.un x.1) x.2) := by
        rw [← hcp]; simp only [classP]; rw [if_neg (fun h => h.1 h0)]
      rw [decide_eq_true h0] at heq
      clear h0
      have HLT := Lib.hid (letters_any wr P s i2 ov d l hps hi2 hs)
      have HH := Lib.hid (And.intro hcpb (And.intro hps (And.intro hA (And.intro hC hK))))
      have hzb : w.heap.size + 1 < wr.heap.size := lt_of_heap hC
      clear hcpb hps hA hC hK
      go_wp2_with fail
      refine HLT.out.mono ?_
      rintro e w3 ⟨q1, q2⟩
      clear heq z0 z1 z2 z3 f0 f1 f2 f3
      have hA3 := (q1.block _ (by omega) (by omega)).trans HH.out.2.2.1
      have hC3 := (q1.block _ hzb (by omega)).trans HH.out.2.2.2.1
      have HK3 := Lib.hid (HH.out.2.2.2.2.trans q1 (fun _ _ h => h))
      have HA3 := Lib.hid hA3; have HC3 := Lib.hid hC3
      have hz3 : w.heap.size + 1 < w3.heap.size := lt_of_heap hC3
      clear q1
      rcases q2 with ⟨t, j, hr, rfl, hp⟩ | ⟨hr, t, rfl, j, hj, hp⟩
      · obtain ⟨hij, hj, htok⟩ := lettersF_ok hr hi2
        have hc0 : C0 = classP s.data.toList gk (st.un t) j := by rw [HH.out.1, hr]; rfl
        have HC0 := Lib.hid hc0
        have hA4 : (w3.alloc (.cells t.cells 41)).heap[w.heap.size]? = some (.cells ws0.cells 41 (0, 0)) := (Below.heap_alloc _ _ _ (by omega)).trans hA3
        have hC4 : (w3.alloc (.cells t.cells 41)).heap[w.heap.size + 1]? = some (.cells st.cells 41 (0, 0)) := (Below.heap_alloc _ _ _ hz3).trans hC3
        have hT4 : (w3.alloc (.cells t.cells 41)).heap[w3.heap.size]? = some (.cells t.cells 41 (0, 0)) := heap_alloc_new w3 _
        have hP4 : PsB (w3.alloc (.cells t.cells 41)) P s j ov d l := hp.below ((Below.refl _ w3).alloc (Nat.le_refl _) _)
        have HK4 := Lib.hid (HK3.out.trans (Kb.of_below (fun j => j = P) ((Below.refl _ w3).alloc (Nat.le_refl _) (.cells t.cells 41))) (fun _ _ h => h))
        have H4 := Lib.hid (And.intro hA4 (And.intro hC4 (And.intro hT4 hP4)))
        clear hA3 hC3 hA4 hC4 hT4 hP4 hr hp hc0
        go_wp2_with fail
        generalize hw4 : w3.alloc (.cells #[.int .u64 t.a, .int .u64 t.b, .int .u64 t.c, .int .u64 t.d] 41) = w4
        have H4' : w4.heap[w.heap.size]? = some (.cells ws0.cells 41 (0, 0)) ∧ w4.heap[w.heap.size + 1]? = some (.cells st.cells 41 (0, 0)) ∧ w4.heap[w3.heap.size]? = some (.cells t.cells 41 (0, 0)) ∧ PsB w4 P s j ov d l := by rw [← hw4]; exact H4.out
        have HK4' : Kb (fun j => j = P) w w4 := by rw [← hw4]; exact HK4.out
        have H5 := Lib.hid H4'; have HK5 := Lib.hid HK4'
        clear H4 HK4 H4' HK4' hw4
        obtain ⟨T, hT⟩ : ∃ T, T = w3.heap.size := ⟨_, rfl⟩
        rw [← hT] at H5 hz3 ⊢
        clear hT
        go_loopw [27] (fun a wq => ∃ k : Nat, k ≤ 4 ∧ a = .int .i64 k ∧ Hid (wq.heap[w.heap.size]? = some (.cells ws0.cells 41 (0, 0)) ∧ wq.heap[w.heap.size + 1]? = some (.cells (st.unk t k).cells 41 (0, 0)) ∧ wq.heap[T]? = some (.cells t.cells 41 (0, 0)) ∧ PsB wq P s j ov d l) ∧ Hid (Kb (fun j => j = P) w wq)) (fun a _ => 4 - (intOf a).toNat)
        case atStart => exact ⟨0, by omega, rfl, H5.out, HK5.out⟩
        case round =>
          obtain ⟨k, hk4, rfl, HQ, HKQ⟩ := hrel
          obtain ⟨qa, qc, qt, qp⟩ := HQ.out
          have hmv : ∀ (m : Nat) (v : Value), (wr.setCell ⟨w.heap.size + 1, m, none⟩ v).drew.heap[w.heap.size]? = some (Obj.cells ws0.cells 41 (0, 0)) ∧ (wr.setCell ⟨w.heap.size + 1, m, none⟩ v).drew.heap[T]? = some (Obj.cells t.cells 41 (0, 0)) ∧ PsB (wr.setCell ⟨w.heap.size + 1, m, none⟩ v).drew P s j ov d l ∧ Kb (fun j => j = P) w (wr.setCell ⟨w.heap.size + 1, m, none⟩ v).drew := fun m v => ⟨(Below.heap_setCell wr ⟨w.heap.size + 1, m, none⟩ v _ (by show w.heap.size ≠ w.heap.size + 1; omega)).trans qa, (Below.heap_setCell wr ⟨w.heap.size + 1, m, none⟩ v _ (by show T ≠ w.heap.size + 1; omega)).trans qt, (Below.heap_setCell wr ⟨w.heap.size + 1, m, none⟩ v _ (by show P ≠ w.heap.size + 1; omega)).trans qp, (HKQ.out.trans (Kb.setCell wr ⟨w.heap.size + 1, m, none⟩ v) (fun i hi h => by have h' : i = w.heap.size + 1 := h; omega)).drew⟩
          have HMV := Lib.hid hmv; have HQC := Lib.hid qc
          obtain ⟨z0, z1, z2, z3, f0, f1, f2, f3⟩ := ws_cells qc
          obtain ⟨t0, t1, t2, t3, _, _, _, _⟩ := ws_cells qt
          clear hmv qa qc qt qp
          rcases (show k = 0 ∨ k = 1 ∨ k = 2 ∨ k = 3 ∨ k = 4 by omega) with rfl | rfl | rfl | rfl | rfl
          · have z' : wr.cell? ⟨w.heap.size + 1, 0, none⟩ = some (.int .u64 st.a) := z0
            have hor := or64' st.a t.a hok.a htok.a
            have HOR := Lib.hid hor
            clear hor z0 z1 t1 f1 z2 t2 f2 z3 t3 f3
            go_wp2_with fail
            go_region
            go_wp2
            rw [HOR.out]
            refine ⟨⟨1, by omega, by go_num, ⟨(HMV.out 0 _).1, ?_, (HMV.out 0 _).2.1, (HMV.out 0 _).2.2.1⟩, (HMV.out 0 _).2.2.2⟩, by decide⟩
            show (wr.setCell ⟨w.heap.size + 1, 0, none⟩ _).heap[w.heap.size + 1]? = _
            rw [set_heap wr _ 0 _ _ _ _ HQC.out]
            rfl
          · have z' : wr.cell? ⟨w.heap.size + 1, 1, none⟩ = some (.int .u64 st.b) := z1
            have hor := or64' st.b t.b hok.b htok.b
            have HOR := Lib.hid hor
            clear hor z1 z0 t0 f0 z2 t2 f2 z3 t3 f3
            go_wp2_with fail
            go_region
            go_wp2
            rw [HOR.out]
            refine ⟨⟨2, by omega, by go_num, ⟨(HMV.out 1 _).1, ?_, (HMV.out 1 _).2.1, (HMV.out 1 _).2.2.1⟩, (HMV.out 1 _).2.2.2⟩, by decide⟩
            show (wr.setCell ⟨w.heap.size + 1, 1, none⟩ _).heap[w.heap.size + 1]? = _
            rw [set_heap wr _ 1 _ _ _ _ HQC.out]
            rfl
          · have z' : wr.cell? ⟨w.heap.size + 1, 2, none⟩ = some (.int .u64 st.c) := z2
            have hor := or64' st.c t.c hok.c htok.c
            have HOR := Lib.hid hor
            clear hor z2 z0 t0 f0 z1 t1 f1 z3 t3 f3
            go_wp2_with fail
            go_region
            go_wp2
            rw [HOR.out]
            refine ⟨⟨3, by omega, by go_num, ⟨(HMV.out 2 _).1, ?_, (HMV.out 2 _).2.1, (HMV.out 2 _).2.2.1⟩, (HMV.out 2 _).2.2.2⟩, by decide⟩
            show (wr.setCell ⟨w.heap.size + 1, 2, none⟩ _).heap[w.heap.size + 1]? = _
            rw [set_heap wr _ 2 _ _ _ _ HQC.out]
            rfl
          · have z' : wr.cell? ⟨w.heap.size + 1, 3, none⟩ = some (.int .u64 st.d) := z3
            have hor := or64' st.d t.d hok.d htok.d
            have HOR := Lib.hid hor
            clear hor z3 z0 t0 f0 z1 t1 f1 z2 t2 f2
            go_wp2_with fail
            go_region
            go_wp2
            rw [HOR.out]
            refine ⟨⟨4, by omega, by go_num, ⟨(HMV.out 3 _).1, ?_, (HMV.out 3 _).2.1, (HMV.out 3 _).2.2.1⟩, (HMV.out 3 _).2.2.2⟩, by decide⟩
            show (wr.setCell ⟨w.heap.size + 1, 3, none⟩ _).heap[w.heap.size + 1]? = _
            rw [set_heap wr _ 3 _ _ _ _ HQC.out]
            rfl
          · clear z0 z1 z2 z3 t0 t1 t2 t3 f0 f1 f2 f3
            go_wp2_with fail
            go_roundg gk
            case measure => omega
            case rel =>
              obtain ⟨qa, qc, qt, qp⟩ := HQ.out
              exact ⟨st.un t, j, hj, HC0.out.symm, by omega, hok.un htok, qp, qa, qc, HKQ.out⟩
      · obtain ⟨z0, z1, z2, z3, _, _, _, _⟩ := ws_cells hC3
        obtain ⟨y0, y1, y2, y3, g0, g1, g2, g3⟩ := ws_cells hA3
        have hcf : classF s.data.toList i = none := by
          rw [HCL.out, HH.out.1, hr]; cases tn <;> rfl
        have HCF := Lib.hid hcf
        have hA4 : (w3.alloc (.cells #[.int .u64 t.a, .int .u64 t.b, .int .u64 t.c, .int .u64 t.d] 41)).heap[w.heap.size]? = some (.cells ws0.cells 41 (0, 0)) := (Below.heap_alloc _ _ _ (by omega)).trans hA3
        obtain ⟨v0, v1, v2, v3, k0, k1, k2, k3⟩ := ws_cells hA4
        clear y0 y1 y2 y3 g0 g1 g2 g3
        have HA4 := Lib.hid hA4
        have HP4 := Lib.hid (hp.below ((Below.refl _ w3).alloc (Nat.le_refl _) (.cells #[.int .u64 t.a, .int .u64 t.b, .int .u64 t.c, .int .u64 t.d] 41)))
        have HK4 := Lib.hid (HK3.out.trans (Kb.of_below (fun j => j = P) ((Below.refl _ w3).alloc (Nat.le_refl _) (.cells #[.int .u64 t.a, .int .u64 t.b, .int .u64 t.c, .int .u64 t.d] 41))) (fun _ _ h => h))
        clear hA3 hC3 hA4 hp hr hcf
        go_wp2_with fail
        (try simp only [Exit.inBlock, Exit.then])
        refine bodyPost_ret (results_ws rfl _ _ w.heap.size st (0, 0) rfl (set4 HA4.out)) rfl ?_
        exact ⟨HK4.out.trans (set4_kb _ w.heap.size st) (fun i hi h => by omega), .inr ⟨HCF.out, st, rfl, j, hj, ((set4_kb _ w.heap.size st).block P (lt_of_heap HP4.out) (by omega)).trans HP4.out⟩⟩
    · rw [decide_eq_false h0] at heq
      by_cases h93 : nx s.data.toList i2 = 93
      · have hc0 : C0 = some (st, i2 + 1) := by rw [← hcp]; simp only [classP]; rw [if_pos ⟨h0, h93⟩]
        have hi3 := nx_in h93 (by omega)
        have HT := Lib.hid (take_yes wr P 93 s i2 ov d l hps hi2 hs h93 (by omega))
        have HH := Lib.hid (And.intro hc0 (And.intro hA (And.intro hC hK)))
        have hzr : w.heap.size + 1 < wr.heap.size := lt_of_heap hC
        clear hcp hps hA hC hK hc0
        go_wp2_with fail
        refine HT.out.mono ?_
        rintro e w3 ⟨rfl, h1, h2⟩
        have hA3 := (h2.block _ (by omega) (by omega)).trans HH.out.2.1
        have hC3 := (h2.block _ hzr (by omega)).trans HH.out.2.2.1
        obtain ⟨y0, y1, y2, y3, g0, g1, g2, g3⟩ := ws_cells hA3
        obtain ⟨x0, x1, x2, x3, e0, e1, e2, e3⟩ := ws_cells hC3
        have HP3 := Lib.hid h1; have HA3 := Lib.hid hA3; have HC3 := Lib.hid hC3
        have HK3 := Lib.hid (HH.out.2.2.2.trans h2 (fun _ _ h => h))
        clear h1 h2 hA3 hC3 z0 z1 z2 z3 f0 f1 f2 f3 heq
        cases tn
        · have hcf : classF s.data.toList i = some (st, i2 + 1) := by rw [HCL.out, HH.out.1]; rfl
          have HCF := Lib.hid hcf
          clear hcf e0 e1 e2 e3
          go_wp2_with fail
          refine bodyPost_ret (results_ws rfl _ _ w.heap.size st (0, 0) rfl (set4 HA3.out)) rfl ?_
          exact ⟨HK3.out.trans (set4_kb w3 w.heap.size st) (fun i hi h => by omega), .inl ⟨st, i2 + 1, HCF.out, rfl, ((set4_kb w3 w.heap.size st).block P (lt_of_heap HP3.out) (by omega)).trans HP3.out⟩⟩
        · have hcf : classF s.data.toList i = some (st.inv 4, i2 + 1) := by rw [HCL.out, HH.out.1]; rfl
          have HCF := Lib.hid hcf
          have HO := Lib.hid (others_any st w3 hok)
          generalize st.inv 4 = sv at HCF HO
          clear hcf g0 g1 g2 g3 y0 y1 y2 y3
          go_wp2_with fail
          refine HO.out.mono ?_
          rintro e w4 ⟨rfl, h4⟩
          have hz4 : w.heap.size + 1 < w3.heap.size := lt_of_heap HC3.out
          have hA4 := (h4.block _ (by omega)).trans HA3.out
          have hC4 := (h4.block _ hz4).trans HC3.out
          obtain ⟨v0, v1, v2, v3, k0, k1, k2, k3⟩ := ws_cells hA4
          obtain ⟨c0, c1, c2, c3, d0, d1, d2, d3⟩ := ws_cells hC4
          have HP4 := Lib.hid (HP3.out.below h4); have HA4 := Lib.hid hA4; have HC4 := Lib.hid hC4
          have HK4 := Lib.hid (HK3.out.trans (Kb.of_below (fun j => j = P) h4) (fun _ _ h => h))
          clear hA4 hC4 h4 x0 x1 x2 x3 e0 e1 e2 e3
          go_wp2_with fail
          have hk5 := set4_kb w4 (w.heap.size + 1) sv
          have hA5 := (hk5.block _ (lt_of_heap HA4.out) (by omega)).trans HA4.out
          have hP5 : PsB _ P s (i2 + 1) ov d l := (hk5.block P (lt_of_heap HP4.out) (by omega)).trans HP4.out
          refine bodyPost_ret (results_ws rfl _ _ w.heap.size sv (0, 0) rfl (set4 hA5)) rfl ?_
          exact ⟨(HK4.out.trans hk5 (fun i hi h => by omega)).trans (set4_kb _ w.heap.size sv) (fun i hi h => by omega), .inl ⟨sv, i2 + 1, HCF.out, rfl, ((set4_kb _ w.heap.size sv).block P (lt_of_heap hP5) (by omega)).trans hP5⟩⟩
      · have hcpb : C0 = (lettersF s.data.toList i2).bind (fun x => classP s.data.toList gk (st.un x.1) x.2) := by
          rw [← hcp]; simp only [classP]; rw [if_neg (fun h => h93 h.2)]
        have HT := Lib.hid (take_no wr P 93 s i2 ov d l hps hi2 hs h93)
        have hzr : w.heap.size + 1 < wr.heap.size := lt_of_heap hC
        have HG := Lib.hid (And.intro hcpb (And.intro hA (And.intro hC hK)))
        clear hcpb hps hA hC hK
        go_wp2_with fail
        refine HT.out.mono ?_
        rintro e w2 ⟨rfl, hps, h2⟩
        have hcpb := HG.out.1
        have hA := (h2.block _ (by omega)).trans HG.out.2.1
        have hC := (h2.block _ hzr).trans HG.out.2.2.1
        have hK := HG.out.2.2.2.trans (Kb.of_below (fun j => j = P) h2) (fun _ _ h => h)
        clear h2
        have HLT := Lib.hid (letters_any w2 P s i2 ov d l hps hi2 hs)
        have HH := Lib.hid (And.intro hcpb (And.intro hps (And.intro hA (And.intro hC hK))))
        have hzb : w.heap.size + 1 < w2.heap.size := lt_of_heap hC
        clear hcpb hps hA hC hK
        go_wp2_with fail
        refine HLT.out.mono ?_
        rintro e w3 ⟨q1, q2⟩
        clear heq z0 z1 z2 z3 f0 f1 f2 f3
        have hA3 := (q1.block _ (by omega) (by omega)).trans HH.out.2.2.1
        have hC3 := (q1.block _ hzb (by omega)).trans HH.out.2.2.2.1
        have HK3 := Lib.hid (HH.out.2.2.2.2.trans q1 (fun _ _ h => h))
        have HA3 := Lib.hid hA3; have HC3 := Lib.hid hC3
        have hz3 : w.heap.size + 1 < w3.heap.size := lt_of_heap hC3
        clear q1
        rcases q2 with ⟨t, j, hr, rfl, hp⟩ | ⟨hr, t, rfl, j, hj, hp⟩
        · obtain ⟨hij, hj, htok⟩ := lettersF_ok hr hi2
          have hc0 : C0 = classP s.data.toList gk (st.un t) j := by rw [HH.out.1, hr]; rfl
          have HC0 := Lib.hid hc0
          have hA4 : (w3.alloc (.cells t.cells 41)).heap[w.heap.size]? = some (.cells ws0.cells 41 (0, 0)) := (Below.heap_alloc _ _ _ (by omega)).trans hA3
          have hC4 : (w3.alloc (.cells t.cells 41)).heap[w.heap.size + 1]? = some (.cells st.cells 41 (0, 0)) := (Below.heap_alloc _ _ _ hz3).trans hC3
          have hT4 : (w3.alloc (.cells t.cells 41)).heap[w3.heap.size]? = some (.cells t.cells 41 (0, 0)) := heap_alloc_new w3 _
          have hP4 : PsB (w3.alloc (.cells t.cells 41)) P s j ov d l := hp.below ((Below.refl _ w3).alloc (Nat.le_refl _) _)
          have HK4 := Lib.hid (HK3.out.trans (Kb.of_below (fun j => j = P) ((Below.refl _ w3).alloc (Nat.le_refl _) (.cells t.cells 41))) (fun _ _ h => h))
          have H4 := Lib.hid (And.intro hA4 (And.intro hC4 (And.intro hT4 hP4)))
          clear hA3 hC3 hA4 hC4 hT4 hP4 hr hp hc0
          go_wp2_with fail
          generalize hw4 : w3.alloc (.cells #[.int .u64 t.a, .int .u64 t.b, .int .u64 t.c, .int .u64 t.d] 41) = w4
          have H4' : w4.heap[w.heap.size]? = some (.cells ws0.cells 41 (0, 0)) ∧ w4.heap[w.heap.size + 1]? = some (.cells st.cells 41 (0, 0)) ∧ w4.heap[w3.heap.size]? = some (.cells t.cells 41 (0, 0)) ∧ PsB w4 P s j ov d l := by rw [← hw4]; exact H4.out
          have HK4' : Kb (fun j => j = P) w w4 := by rw [← hw4]; exact HK4.out
          have H5 := Lib.hid H4'; have HK5 := Lib.hid HK4'
          clear H4 HK4 H4' HK4' hw4
          obtain ⟨T, hT⟩ : ∃ T, T = w3.heap.size := ⟨_, rfl⟩
          rw [← hT] at H5 hz3 ⊢
          clear hT
          go_loopw [27] (fun a wq => ∃ k : Nat, k ≤ 4 ∧ a = .int .i64 k ∧ Hid (wq.heap[w.heap.size]? = some (.cells ws0.cells 41 (0, 0)) ∧ wq.heap[w.heap.size + 1]? = some (.cells (st.unk t k).cells 41 (0, 0)) ∧ wq.heap[T]? = some (.cells t.cells 41 (0, 0)) ∧ PsB wq P s j ov d l) ∧ Hid (Kb (fun j => j = P) w wq)) (fun a _ => 4 - (intOf a).toNat)
          case atStart => exact ⟨0, by omega, rfl, H5.out, HK5.out⟩
          case round =>
            obtain ⟨k, hk4, rfl, HQ, HKQ⟩ := hrel
            obtain ⟨qa, qc, qt, qp⟩ := HQ.out
            have hmv : ∀ (m : Nat) (v : Value), (wr.setCell ⟨w.heap.size + 1, m, none⟩ v).drew.heap[w.heap.size]? = some (Obj.cells ws0.cells 41 (0, 0)) ∧ (wr.setCell ⟨w.heap.size + 1, m, none⟩ v).drew.heap[T]? = some (Obj.cells t.cells 41 (0, 0)) ∧ PsB (wr.setCell ⟨w.heap.size + 1, m, none⟩ v).drew P s j ov d l ∧ Kb (fun j => j = P) w (wr.setCell ⟨w.heap.size + 1, m, none⟩ v).drew := fun m v => ⟨(Below.heap_setCell wr ⟨w.heap.size + 1, m, none⟩ v _ (by show w.heap.size ≠ w.heap.size + 1; omega)).trans qa, (Below.heap_setCell wr ⟨w.heap.size + 1, m, none⟩ v _ (by show T ≠ w.heap.size + 1; omega)).trans qt, (Below.heap_setCell wr ⟨w.heap.size + 1, m, none⟩ v _ (by show P ≠ w.heap.size + 1; omega)).trans qp, (HKQ.out.trans (Kb.setCell wr ⟨w.heap.size + 1, m, none⟩ v) (fun i hi h => by have h' : i = w.heap.size + 1 := h; omega)).drew⟩
            have HMV := Lib.hid hmv; have HQC := Lib.hid qc
            obtain ⟨z0, z1, z2, z3, f0, f1, f2, f3⟩ := ws_cells qc
            obtain ⟨t0, t1, t2, t3, _, _, _, _⟩ := ws_cells qt
            clear hmv qa qc qt qp
            rcases (show k = 0 ∨ k = 1 ∨ k = 2 ∨ k = 3 ∨ k = 4 by omega) with rfl | rfl | rfl | rfl | rfl
            · have z' : wr.cell? ⟨w.heap.size + 1, 0, none⟩ = some (.int .u64 st.a) := z0
              have hor := or64' st.a t.a hok.a htok.a
              have HOR := Lib.hid hor
              clear hor z0 z1 t1 f1 z2 t2 f2 z3 t3 f3
              go_wp2_with fail
              go_region
              go_wp2
              rw [HOR.out]
              refine ⟨⟨1, by omega, by go_num, ⟨(HMV.out 0 _).1, ?_, (HMV.out 0 _).2.1, (HMV.out 0 _).2.2.1⟩, (HMV.out 0 _).2.2.2⟩, by decide⟩
              show (wr.setCell ⟨w.heap.size + 1, 0, none⟩ _).heap[w.heap.size + 1]? = _
              rw [set_heap wr _ 0 _ _ _ _ HQC.out]
              rfl
            · have z' : wr.cell? ⟨w.heap.size + 1, 1, none⟩ = some (.int .u64 st.b) := z1
              have hor := or64' st.b t.b hok.b htok.b
              have HOR := Lib.hid hor
              clear hor z1 z0 t0 f0 z2 t2 f2 z3 t3 f3
              go_wp2_with fail
              go_region
              go_wp2
              rw [HOR.out]
              refine ⟨⟨2, by omega, by go_num, ⟨(HMV.out 1 _).1, ?_, (HMV.out 1 _).2.1, (HMV.out 1 _).2.2.1⟩, (HMV.out 1 _).2.2.2⟩, by decide⟩
              show (wr.setCell ⟨w.heap.size + 1, 1, none⟩ _).heap[w.heap.size + 1]? = _
              rw [set_heap wr _ 1 _ _ _ _ HQC.out]
              rfl
            · have z' : wr.cell? ⟨w.heap.size + 1, 2, none⟩ = some (.int .u64 st.c) := z2
              have hor := or64' st.c t.c hok.c htok.c
              have HOR := Lib.hid hor
              clear hor z2 z0 t0 f0 z1 t1 f1 z3 t3 f3
              go_wp2_with fail
              go_region
              go_wp2
              rw [HOR.out]
              refine ⟨⟨3, by omega, by go_num, ⟨(HMV.out 2 _).1, ?_, (HMV.out 2 _).2.1, (HMV.out 2 _).2.2.1⟩, (HMV.out 2 _).2.2.2⟩, by decide⟩
              show (wr.setCell ⟨w.heap.size + 1, 2, none⟩ _).heap[w.heap.size + 1]? = _
              rw [set_heap wr _ 2 _ _ _ _ HQC.out]
              rfl
            · have z' : wr.cell? ⟨w.heap.size + 1, 3, none⟩ = some (.int .u64 st.d) := z3
              have hor := or64' st.d t.d hok.d htok.d
              have HOR := Lib.hid hor
              clear hor z3 z0 t0 f0 z1 t1 f1 z2 t2 f2
              go_wp2_with fail
              go_region
              go_wp2
              rw [HOR.out]
              refine ⟨⟨4, by omega, by go_num, ⟨(HMV.out 3 _).1, ?_, (HMV.out 3 _).2.1, (HMV.out 3 _).2.2.1⟩, (HMV.out 3 _).2.2.2⟩, by decide⟩
              show (wr.setCell ⟨w.heap.size + 1, 3, none⟩ _).heap[w.heap.size + 1]? = _
              rw [set_heap wr _ 3 _ _ _ _ HQC.out]
              rfl
            · clear z0 z1 z2 z3 t0 t1 t2 t3 f0 f1 f2 f3
              go_wp2_with fail
              go_roundg gk
              case measure => omega
              case rel =>
                obtain ⟨qa, qc, qt, qp⟩ := HQ.out
                exact ⟨st.un t, j, hj, HC0.out.symm, by omega, hok.un htok, qp, qa, qc, HKQ.out⟩
        · obtain ⟨z0, z1, z2, z3, _, _, _, _⟩ := ws_cells hC3
          obtain ⟨y0, y1, y2, y3, g0, g1, g2, g3⟩ := ws_cells hA3
          have hcf : classF s.data.toList i = none := by
            rw [HCL.out, HH.out.1, hr]; cases tn <;> rfl
          have HCF := Lib.hid hcf
          have hA4 : (w3.alloc (.cells #[.int .u64 t.a, .int .u64 t.b, .int .u64 t.c, .int .u64 t.d] 41)).heap[w.heap.size]? = some (.cells ws0.cells 41 (0, 0)) := (Below.heap_alloc _ _ _ (by omega)).trans hA3
          obtain ⟨v0, v1, v2, v3, k0, k1, k2, k3⟩ := ws_cells hA4
          clear y0 y1 y2 y3 g0 g1 g2 g3
          have HA4 := Lib.hid hA4
          have HP4 := Lib.hid (hp.below ((Below.refl _ w3).alloc (Nat.le_refl _) (.cells #[.int .u64 t.a, .int .u64 t.b, .int .u64 t.c, .int .u64 t.d] 41)))
          have HK4 := Lib.hid (HK3.out.trans (Kb.of_below (fun j => j = P) ((Below.refl _ w3).alloc (Nat.le_refl _) (.cells #[.int .u64 t.a, .int .u64 t.b, .int .u64 t.c, .int .u64 t.d] 41))) (fun _ _ h => h))
          clear hA3 hC3 hA4 hp hr hcf
          go_wp2_with fail
          (try simp only [Exit.inBlock, Exit.then])
          refine bodyPost_ret (results_ws rfl _ _ w.heap.size st (0, 0) rfl (set4 HA4.out)) rfl ?_
          exact ⟨HK4.out.trans (set4_kb _ w.heap.size st) (fun i hi h => by omega), .inr ⟨HCF.out, st, rfl, j, hj, ((set4_kb _ w.heap.size st).block P (lt_of_heap HP4.out) (by omega)).trans HP4.out⟩⟩
end Go.Proofs.Ytejdfpieblkapaa
