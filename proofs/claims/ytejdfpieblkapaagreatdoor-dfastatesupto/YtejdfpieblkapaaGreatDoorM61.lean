/- Carried from another seat. -/
import Derived.Test.YtejdfpieblkapaaGreatDoorM60
import Derived.Deep.DeepCutAuto
namespace Go.Proofs.YtejdfpieblkapaaGreatDoor
open Lib renaming hid → zh
open Go.RowKit Go.Shelf

theorem ws_of (f : Nat → Bool) : ∃ u : Ws, ∀ k, k < 256 → f k = u.hasN k := by
 have key : ∀ n, n ≤ 256 → ∃ u : Ws, ∀ k, k < 256 → u.hasN k = (f k && decide (k < n)) := by
  intro n
  induction n with
  | zero => intro _; exact ⟨ws0, fun k hk => by rw [ws0_has k hk]; simp⟩
  | succ n ih =>
   intro hn
   obtain ⟨u, hu⟩ := ih (by omega)
   by_cases hf : f n = true
   ·refine ⟨u.bit n, fun k hk => ?_⟩
    rw [Ws.hasN_bit u n k (by omega) hk, hu k hk]
    by_cases e : k = n
    ·subst e; simp [hf]
    ·have : decide (k < n + 1) = decide (k < n) := by rw [Bool.eq_iff_iff]; simp; omega
     rw [this]; simp [e]
   ·refine ⟨u, fun k hk => ?_⟩
    rw [hu k hk]
    by_cases e : k = n
    ·subst e; simp [hf]
    ·have : decide (k < n + 1) = decide (k < n) := by rw [Bool.eq_iff_iff]; simp; omega
     rw [this]
 obtain ⟨u, hu⟩ := key 256 (Nat.le_refl _)
 exact ⟨u, fun k hk => by rw [hu k hk]; simp [hk]⟩
def ClTo (X : Nat) (s : ByteArray) (d : Int) (great : Bool) (r : Option (Ws × Nat)) (w : World) (e : Ending) (w' : World) : Prop :=
 Kb (fun j => j = X) w w' ∧ ((∃ u j, r = some (u, j) ∧ e = .returned (.agg (RfC 0 (setB u) (.slice none 0 0)).toArray) ∧ TxB w' X s j d false great) ∨ (r = none ∧ ∃ u j, e = .returned (.agg (RfC 0 (setB u) (.slice none 0 0)).toArray) ∧ j ≤ s.size ∧ TxB w' X s j d true great))
structure CrS (w : World) (X : Nat) (s : ByteArray) (d : Int) (great : Bool) (wr : World) (j : Nat) (bad : Bool) (f : Nat → Bool) : Prop where
 tx : TxB wr X s j d bad great
 res : RfB wr w.heap.size (fun _ => false)
 nd : RfB wr (w.heap.size + 1) f
 kb : Kb (fun k => k = X) w wr
theorem CrS.txk {w : World} {X : Nat} {s : ByteArray} {d : Int} {great : Bool} {wr w2 : World} {j j' : Nat} {bad bad' : Bool} {f : Nat → Bool} (H : CrS w X s d great wr j bad f) (hX : X < w.heap.size) (k : Kb (fun i => i = X) wr w2) (t : TxB w2 X s j' d bad' great) : CrS w X s d great w2 j' bad' f :=
 ⟨t, (k.block _ (lt_of_heap H.res) (by omega)).trans H.res, (k.block _ (lt_of_heap H.nd) (by omega)).trans H.nd, H.kb.trans k (fun _ _ h => h)⟩
theorem CrS.below {w : World} {X : Nat} {s : ByteArray} {d : Int} {great : Bool} {wr w2 : World} {j : Nat} {bad : Bool} {f : Nat → Bool} (H : CrS w X s d great wr j bad f) (hb : Below wr.heap.size wr w2) : CrS w X s d great w2 j bad f :=
 ⟨H.tx.below hb, (hb.block _ (lt_of_heap H.res)).trans H.res, (hb.block _ (lt_of_heap H.nd)).trans H.nd, H.kb.trans (Kb.of_below _ hb) (fun _ _ h => h)⟩
theorem CrS.set {w : World} {X : Nat} {s : ByteArray} {d : Int} {great : Bool} {wr : World} {j : Nat} {bad : Bool} {f : Nat → Bool} (H : CrS w X s d great wr j bad f) (hX : X < w.heap.size) {k : Nat} (hk : k < 256) (v : Bool) : CrS w X s d great (wr.setCell ⟨w.heap.size + 1, 1 + k, none⟩ (.bool v)) j bad (fun i => if i = k then v else f i) :=
 have kb := Kb.setCell wr ⟨w.heap.size + 1, 1 + k, none⟩ (.bool v)
 ⟨(kb.block _ (lt_of_heap H.tx) (by show X ≠ w.heap.size + 1; omega)).trans H.tx, (kb.block _ (lt_of_heap H.res) (by show w.heap.size ≠ w.heap.size + 1; omega)).trans H.res, H.nd.set hk v, H.kb.trans kb (fun i hi h => by have h' : i = w.heap.size + 1 := h; omega)⟩
theorem CrS.ext {w : World} {X : Nat} {s : ByteArray} {d : Int} {great : Bool} {wr : World} {j : Nat} {bad : Bool} {f g : Nat → Bool} (H : CrS w X s d great wr j bad f) (he : ∀ k, k < 256 → f k = g k) : CrS w X s d great wr j bad g := ⟨H.tx, H.res, H.nd.ext he, H.kb⟩
theorem CrS.fin {w : World} {X : Nat} {s : ByteArray} {d : Int} {great : Bool} {wr : World} {j : Nat} {bad : Bool} {f : Nat → Bool} (H : CrS w X s d great wr j bad f) (hX : X < w.heap.size) (cs : Array Value) : Kb (fun k => k = X) w (wr.setRow w.heap.size cs) ∧ TxB (wr.setRow w.heap.size cs) X s j d bad great ∧ (wr.setRow w.heap.size cs).heap[w.heap.size]? = some (.cells cs 36 (0, 0)) :=
 ⟨H.kb.trans (setRow_kb wr w.heap.size cs) (fun i hi h => by omega), (setRow_other wr w.heap.size X cs (by omega)).trans H.tx, setRow_heap wr _ _ cs 36 (0, 0) H.res⟩
def CrL (w : World) (X : Nat) (s : ByteArray) (d : Int) (great : Bool) (C0 : Option (Ws × Nat)) (k : Nat) (v : Value) (wr : World) : Prop :=
 ∃ (first bad : Bool) (st : Ws) (j : Nat), v = .bool first ∧ j ≤ s.size ∧ CrS w X s d great wr j bad st.hasN ∧ (bad = true → C0 = none) ∧ (bad = false → classP s.data.toList k st j = C0 ∧ s.size + 1 ≤ k + j ∧ st.Ok ∧ (first = true ↔ st = ws0))
theorem rf_one (f : Nat → Bool) : ∀ v ∈ RfC 0 (bls f) (.slice none 0 0), v.oneCell' = true := RfC_one 0 f none 0 0
theorem rf_len (f : Nat → Bool) : (RfC 0 (bls f) (.slice none 0 0)).length = 258 := RfC_len 0 _ (bls_len f)

theorem cl_fin {w : World} {X : Nat} {s : ByteArray} {d : Int} {great : Bool} {wr : World} {j : Nat} {bad : Bool} {f : Nat → Bool} (H : CrS w X s d great wr j bad f) (hX : X < w.heap.size) (hj : j ≤ s.size) {r : Option (Ws × Nat)} (hok : bad = false → ∃ u : Ws, r = some (u, j) ∧ ∀ k, k < 256 → f k = u.hasN k) (hbad : bad = true → r = none) :
  ClTo X s d great r w (.returned (.agg (RfC 0 (bls f) (.slice none 0 0)).toArray)) (wr.setRow w.heap.size (RfC 0 (bls f) (.slice none 0 0)).toArray) := by
 obtain ⟨k1, k2, _⟩ := H.fin hX (RfC 0 (bls f) (.slice none 0 0)).toArray
 refine ⟨k1, ?_⟩
 cases bad with
 | false =>
  obtain ⟨u, hu, he⟩ := hok rfl
  exact .inl ⟨u, j, hu, by rw [bls_ext he]; rfl, k2⟩
 | true =>
  obtain ⟨u, he⟩ := ws_of f
  exact .inr ⟨hbad rfl, u, j, by rw [bls_ext he]; rfl, hj, k2⟩
theorem classP_in {L : List UInt8} {k j : Nat} {st : Ws} (h : ¬ (st ≠ ws0 ∧ nx L j = 93)) : classP L (k + 1) st j = (lettersF L j).bind fun x => classP L k (st.un x.1) x.2 := by
 simp only [classP]; rw [if_neg h]
theorem classP_end {L : List UInt8} {k j : Nat} {st : Ws} (h : st ≠ ws0) (h2 : nx L j = 93) : classP L (k + 1) st j = some (st, j + 1) := by
 simp only [classP]; rw [if_pos ⟨h, h2⟩]
theorem inS_size : INS.size ≤ 1000 := by decide

set_option maxRecDepth 100000 in
set_option maxHeartbeats 4000000 in
theorem class_r (w : World) (X : Nat) (s : ByteArray) (i : Nat) (d : Int) (great : Bool) (h : TxB w X s i d false great) (hi : i ≤ s.size) (hs : s.size ≤ 1000000) :
  Calls Tryz.prog 143 #[ptr X] w (ClTo X s d great (classF s.data.toList i) w) := by
 have hXl := lt_of_heap h
 have hsz1 : (w.alloc (.cells Tryz.zeroCells36 36)).heap.size = w.heap.size + 1 := by simp
 have hN : ((w.alloc (.cells Tryz.zeroCells36 36)).alloc (.cells Tryz.zeroCells36 36)).heap[w.heap.size + 1]? = some (.cells (RfC 0 noB (.slice none 0 0)).toArray 36 (0, 0)) := by
  have := heap_alloc_new (w.alloc (.cells Tryz.zeroCells36 36)) (.cells Tryz.zeroCells36 36)
  rw [hsz1, zero30] at this
  rw [zero30]; exact this
 have hR : ((w.alloc (.cells Tryz.zeroCells36 36)).alloc (.cells Tryz.zeroCells36 36)).heap[w.heap.size]? = some (.cells (RfC 0 noB (.slice none 0 0)).toArray 36 (0, 0)) := by
  have h1 := heap_alloc_new w (.cells Tryz.zeroCells36 36)
  have h2 := (Below.heap_alloc (w.alloc (.cells Tryz.zeroCells36 36)) (.cells Tryz.zeroCells36 36) w.heap.size (by simp)).trans h1
  rw [h2, zero30]; rfl
 have hb : Below w.heap.size w ((w.alloc (.cells Tryz.zeroCells36 36)).alloc (.cells Tryz.zeroCells36 36)) := ((Below.refl _ w).alloc (Nat.le_refl _) _).alloc (by simp) _
 have hC1 : CrS w X s d great (((w.alloc (.cells Tryz.zeroCells36 36)).alloc (.cells Tryz.zeroCells36 36)).setRow (w.heap.size + 1) (RfC 0 noB (.slice none 0 0)).toArray) i false (fun _ => false) := by
  have kb := setRow_kb ((w.alloc (.cells Tryz.zeroCells36 36)).alloc (.cells Tryz.zeroCells36 36)) (w.heap.size + 1) (RfC 0 noB (.slice none 0 0)).toArray
  have t1 := h.below hb
  exact ⟨(kb.block X (lt_of_heap t1) (by omega)).trans t1, (kb.block _ (lt_of_heap hR) (by omega)).trans hR, setRow_heap _ _ _ _ 36 (0, 0) hN, (Kb.of_below _ hb).trans kb (fun i hi h => by omega)⟩
 have HN := zh hN; have HC1 := zh hC1
 clear hN hR hb hC1 h hsz1
 go_enter Tryz.func143, Tryz.ntmps143
 go_wp2_with (first | (refine bd0 rfl rfl ?_) | (refine st30 rfl _ _ rfl (w.heap.size + 1) (RfC 0 noB (.slice none 0 0)) (RfC 0 noB (.slice none 0 0)) rfl rfl HN.out (rf_len _) (rf_len _) (rf_one _) ?_))
 generalize ((w.alloc (.cells Tryz.zeroCells36 36)).alloc (.cells Tryz.zeroCells36 36)).setRow (w.heap.size + 1) (RfC 0 noB (.slice none 0 0)).toArray = w1 at HC1 ⊢
 clear HN
 have HSE := zh (sees_any w1 X s i 94 d false great HC1.out.tx hi hs (by omega))
 refine HSE.out.mono ?_
 rintro e w2 ⟨rfl, ht2, hb2⟩
 have HC2 := zh (HC1.out.below hb2)
 obtain ⟨tn, htn⟩ : ∃ tn, tn = decide (nx s.data.toList i = 94) := ⟨_, rfl⟩
 rw [← htn]
 have HTN := zh htn
 clear ht2 hb2 HSE HC1 htn
 go_upto_if 14 with fail
 go_cut [] (fun wx => ∃ i1, i1 ≤ s.size ∧ Hid (classF s.data.toList i = (if tn = true then (classP s.data.toList (s.size + 1) ws0 i1).map (fun x => (x.1.inv 4, x.2)) else classP s.data.toList (s.size + 1) ws0 i1)) ∧ Hid (CrS w X s d great wx i1 false (fun _ => false)))
 case first =>
  have hlenL : s.data.toList.length = s.size := by rw [← Lib.size_eq]
  obtain ⟨c0, c1, _, c3, _, cf⟩ := tx_cells HC2.out.tx
  have f1 := cf 1
  cases tn
  ·have HX := zh (of_decide_eq_false HTN.out.symm)
   have HL := zh hlenL
   clear hlenL cf HTN
   go_wp2_with fail
   go_meet
   exact ⟨i, hi, by show classF _ _ = _; unfold classF; rw [if_neg HX.out, HL.out]; rfl, HC2.out⟩
  ·have hx := of_decide_eq_true HTN.out.symm
   have hil := nx_in hx (by omega)
   obtain ⟨i1, hi1⟩ : ∃ i1, i1 = i + 1 := ⟨_, rfl⟩
   have p1 : IntKind.i64.wrap ((i : Int) + 1) = (i1 : Int) := by rw [hi1, IntWalk.i64_in _ (by omega)]; omega
   have HX := zh hx
   have HL := zh hlenL
   have HI1 := zh hi1
   clear hlenL cf HTN hx hi1
   go_wp2_with fail
   go_meet
   exact ⟨i1, by have := HI1.out; omega, by show classF _ _ = _; unfold classF; rw [if_pos HX.out, HL.out, HI1.out]; rfl, HC2.out.txk hXl (Kb.setCell w2 ⟨X, 1, none⟩ _) (HC2.out.tx.at' i1)⟩
 case rest =>
  obtain ⟨i1, hi1, HCF, HC3⟩ := hcut
  clear HC2 HTN
  obtain ⟨C0, hC0⟩ : ∃ C0, C0 = classP s.data.toList (s.size + 1) ws0 i1 := ⟨_, rfl⟩
  rw [← hC0] at HCF
  have HST := zh (show CrL w X s d great C0 (s.size + 1) (.bool true) wc from ⟨true, false, ws0, i1, rfl, hi1, HC3.out.ext (fun k hk => (ws0_has k hk).symm), (fun h => by cases h), fun _ => ⟨hC0.symm, by omega, ⟨by decide, by decide, by decide, by decide⟩, by simp⟩⟩)
  clear hC0 HC3
  go_wp2_with fail
  go_loopg [5] (s.size + 1) (fun k v wr => CrL w X s d great C0 k v wr)
  case atStart => exact HST.out
  case round =>
   clear HST
   obtain ⟨first, bad, st, j, rfl, hj, hcr, hb1, hb2⟩ := hrel
   have HCR := zh hcr; have HB1 := zh hb1; have HB2 := zh hb2
   obtain ⟨c0, c1, _, c3, _, cf⟩ := tx_cells hcr.tx
   clear hcr hb1 hb2 cf
   go_upto_region 6 with fail
   go_cut [34] (fun v wx => ∃ c, v = .bool c ∧ Hid (c = (!bad && (first || !decide (nx s.data.toList j = 93)))) ∧ Hid (CrS w X s d great wx j bad st.hasN))
   case first =>
    have HSE := zh (sees_any wr X s j 93 d bad great HCR.out.tx hj hs (by omega))
    cases bad
    ·cases first
     ·go_wp2_with fail
      refine HSE.out.mono ?_
      rintro e w4 ⟨rfl, ht4, hb4⟩
      have HC4 := zh (HCR.out.below hb4)
      clear ht4 hb4
      go_wp2_with fail
      go_meet
      exact ⟨_, rfl, rfl, HC4.out⟩
     ·go_wp2_with fail
      go_meet
      exact ⟨_, rfl, rfl, HCR.out⟩
    ·go_wp2_with fail
     go_meet
     exact ⟨_, rfl, rfl, HCR.out⟩
   case rest =>
    obtain ⟨c, rfl, HC, HC4⟩ := hcut
    clear HCR c0 c1 c3
    cases c
    ·skip
     have HH := zh (show (bad = false → C0 = some (st, j + 1) ∧ st.Ok ∧ j < s.size) ∧ (bad = true → C0 = none) from ⟨fun hb => by
      obtain ⟨e1, e2, e3, e4⟩ := HB2.out hb
      have hc := HC.out
      rw [hb] at hc
      cases first with
      | true => simp at hc
      | false =>
       have h93 : nx s.data.toList j = 93 := by simpa using hc
       have hjl := nx_in h93 (by omega)
       have hne : st ≠ ws0 := fun h => by have := e4.2 h; cases this
       rcases gk with _ | gk
       ·omega
       ·rw [classP_end hne h93] at e1
        exact ⟨e1.symm, e3, hjl⟩, HB1.out⟩)
     clear HB1 HB2 HC
     obtain ⟨c0, c1, _, c3, _, cf⟩ := tx_cells HC4.out.tx
     have f1 := cf 1
     clear cf
     go_upto_if 97 with fail
     go_cut [] (fun wx => ∃ j2, j2 ≤ s.size ∧ Hid (CrS w X s d great wx j2 bad st.hasN) ∧ Hid ((bad = false → C0 = some (st, j2) ∧ st.Ok) ∧ (bad = true → C0 = none)))
     case first =>
      cases bad
      ·obtain ⟨e1, e2, e3⟩ := HH.out.1 rfl
       obtain ⟨j2, hj2⟩ : ∃ j2, j2 = j + 1 := ⟨_, rfl⟩
       have p1 : IntKind.i64.wrap ((j : Int) + 1) = (j2 : Int) := by rw [hj2, IntWalk.i64_in _ (by omega)]; omega
       have HE := zh (show C0 = some (st, j2) ∧ st.Ok by rw [hj2]; exact ⟨e1, e2⟩)
       have HJ := zh (show j2 ≤ s.size by omega)
       clear e1 hj2
       go_wp2_with fail
       go_meet
       exact ⟨j2, HJ.out, HC4.out.txk hXl (Kb.setCell wc ⟨X, 1, none⟩ _) (HC4.out.tx.at' j2), (fun _ => HE.out), (fun h => by cases h)⟩
      ·have HE := zh (HH.out.2 rfl)
       go_wp2_with fail
       go_meet
       exact ⟨j, hj, HC4.out, (fun h => by cases h), (fun _ => HE.out)⟩
     case rest =>
      obtain ⟨j2, hj2, HC5, HE⟩ := hcut
      clear HC4 HH c0 c1 c3 f1
      cases tn
      ·have HCF2 := zh (show classF s.data.toList i = C0 from HCF.out)
       clear HCF
       go_wp2_with fail
       go_loopw [10] (fun v wr => v = .int .i64 0 ∧ Hid (CrS w X s d great wr j2 bad st.hasN)) (fun _ _ => 0)
       case atStart => exact ⟨rfl, HC5.out⟩
       case round =>
        obtain ⟨rfl, HRR⟩ := hrel
        go_wp2_with (first | (refine ld30 rfl _ rfl (w.heap.size + 1) 0 (RfC 0 (bls st.hasN) (.slice none 0 0)) rfl HRR.out.nd.range (rf_len _) ?_) | (refine st30 rfl _ _ rfl w.heap.size (RfC 0 (bls st.hasN) (.slice none 0 0)) (RfC 0 (bls fun _ => false) (.slice none 0 0)) rfl rfl HRR.out.res (rf_len _) (rf_len _) (rf_one _) ?_))
        refine bodyPost_ret (results_nd rfl _ _ w.heap.size (RfC 0 (bls st.hasN) (.slice none 0 0)) (0, 0) rfl (HRR.out.fin hXl _).2.2 (rf_len _)) rfl ?_
        exact cl_fin HRR.out hXl hj2 (fun hb => ⟨st, by rw [HCF2.out]; exact (HE.out.1 hb).1, fun _ _ => rfl⟩) (fun hb => by rw [HCF2.out]; exact HE.out.2 hb)

      ·have HCF2 := zh (show classF s.data.toList i = C0.map (fun x => (x.1.inv 4, x.2)) from HCF.out)
       clear HCF
       go_wp2_with fail
       go_loopw [10] (fun v wr => ∃ k : Nat, k ≤ 256 ∧ v = .int .i64 k ∧ Hid (CrS w X s d great wr j2 bad (fun m => if m < k then !st.hasN m else st.hasN m))) (fun v _ => 256 - (intOf v).toNat)
       case atStart => exact ⟨0, by omega, rfl, HC5.out.ext (fun m _ => by rw [if_neg (by omega)])⟩
       case round =>
        obtain ⟨k, hk, rfl, HRR⟩ := hrel
        rcases Nat.lt_or_ge k 256 with hlt | hge
        ·have hki : (k : Int) < 256 := by omega
         have hk0 : (0 : Int) ≤ k := by omega
         obtain ⟨z1, z2⟩ := HRR.out.nd.cell hlt
         rw [if_neg (by omega)] at z1
         obtain ⟨β, hβ⟩ : ∃ β, β = st.hasN k := ⟨_, rfl⟩
         rw [← hβ] at z1
         have HF := zh (show CrS w X s d great (wr.setCell ⟨w.heap.size + 1, 1 + k, none⟩ (.bool (!β))) j2 bad (fun m => if m < k + 1 then !st.hasN m else st.hasN m) from (HRR.out.set hXl hlt (!β)).ext (fun m hm => by
          by_cases e : m = k
          ·subst e; rw [if_pos rfl, if_pos (by omega), hβ]
          ·rw [if_neg e]
           by_cases e2 : m < k
           ·rw [if_pos e2, if_pos (by omega)]
           ·rw [if_neg e2, if_neg (by omega)]))
         clear hβ
         go_wp2
         go_roundw
         case rel => exact ⟨k + 1, by omega, by go_num, HF.out⟩
         case measure => simp [intOf]; omega
        ·obtain rfl : k = 256 := by omega
         go_wp2_with (first | (refine ld30 rfl _ rfl (w.heap.size + 1) 0 (RfC 0 (bls (fun m => if m < 256 then !st.hasN m else st.hasN m)) (.slice none 0 0)) rfl HRR.out.nd.range (rf_len _) ?_) | (refine st30 rfl _ _ rfl w.heap.size (RfC 0 (bls (fun m => if m < 256 then !st.hasN m else st.hasN m)) (.slice none 0 0)) (RfC 0 (bls fun _ => false) (.slice none 0 0)) rfl rfl HRR.out.res (rf_len _) (rf_len _) (rf_one _) ?_))
         refine bodyPost_ret (results_nd rfl _ _ w.heap.size (RfC 0 (bls (fun m => if m < 256 then !st.hasN m else st.hasN m)) (.slice none 0 0)) (0, 0) rfl (HRR.out.fin hXl _).2.2 (rf_len _)) rfl ?_
         exact cl_fin HRR.out hXl hj2 (fun hb => ⟨st.inv 4, by rw [HCF2.out, (HE.out.1 hb).1]; rfl, fun m hm => by rw [if_pos hm, Ws.hasN_inv st (HE.out.1 hb).2 m hm]⟩) (fun hb => by rw [HCF2.out, HE.out.2 hb]; rfl)
    ·skip
     obtain rfl : bad = false := by
      have hc := HC.out
      cases bad
      ·rfl
      ·simp at hc
     obtain ⟨e1, e2, e3, e4⟩ := HB2.out rfl
     have hin : ¬ (st ≠ ws0 ∧ nx s.data.toList j = 93) := fun hh => by
      have hc := HC.out
      cases first with
      | true => exact hh.1 (e4.1 rfl)
      | false => rw [hh.2] at hc; simp at hc
     rcases gk with _ | gk
     ·omega
     have hC0 : C0 = (lettersF s.data.toList j).bind fun x => classP s.data.toList gk (st.un x.1) x.2 := by rw [← e1, classP_in hin]
     have HC0 := zh hC0; have HOK := zh e3
     clear HB1 HB2 HC hin hC0 e1 e3 e4
     have HL1 := zh (letter_r wc X INS s j d great HC4.out.tx hj hs inS_size ins0)
     go_wp2_with fail
     refine HL1.out.mono ?_
     rintro e w5 ⟨k5, h5⟩
     clear HL1
     rcases h5 with ⟨f, j1, hl1, rfl, ht5⟩ | ⟨hl1, rfl, j1, hj1, ht5⟩
     ·have HC5 := zh (HC4.out.txk hXl k5 ht5)
      obtain ⟨hf256, hjj1, hj1⟩ := letF_ok hl1 hj ins0
      have HLF := zh hl1
      clear HC4 k5 ht5 hl1
      have HSE := zh (sees_any w5 X s j1 45 d false great HC5.out.tx hj1 hs (by omega))
      obtain ⟨_, _, _, t3, _, _⟩ := tx_cells HC5.out.tx
      go_wp2_with fail
      refine HSE.out.mono ?_
      rintro e w6 ⟨rfl, ht6, hb6⟩
      have HC6 := zh (HC5.out.below hb6)
      clear ht6 hb6 HSE HC5 t3
      obtain ⟨_, c1, _, c3, _, cf⟩ := tx_cells HC6.out.tx
      have f1 := cf 1
      clear cf
      by_cases h45 : nx s.data.toList j1 = 45
      ·rw [decide_eq_true h45]
       have hj1l := nx_in h45 (by omega)
       obtain ⟨j2, hj2⟩ : ∃ j2, j2 = j1 + 1 := ⟨_, rfl⟩
       have p1 : IntKind.i64.wrap ((j1 : Int) + 1) = (j2 : Int) := by rw [hj2, IntWalk.i64_in _ (by omega)]; omega
       have hj2s : j2 ≤ s.size := by omega
       have hj12 : j1 < j2 := by omega
       have HC7 := zh (HC6.out.txk hXl (Kb.setCell w6 ⟨X, 1, none⟩ (.int .i64 j2)) (HC6.out.tx.at' j2))
       have HL45 := zh (show lettersF s.data.toList j = match letF INS s.data.toList j2 with | none => none | some (g, k) => if g < f then none else some (btw f (g + 1 - f), k) by unfold lettersF; rw [HLF.out]; show (if nx s.data.toList j1 = 45 then _ else _) = _; rw [if_pos h45, hj2]; rfl)
       clear h45 hj2 HLF
       go_wp2_with fail
       generalize w6.setCell ⟨X, 1, none⟩ (.int .i64 j2) = w7 at HC7 ⊢
       clear c1 c3 f1 HC6
       obtain ⟨_, c1, _, c3, _, cf⟩ := tx_cells HC7.out.tx
       have f1 := cf 1; have f3 := cf 3
       clear cf
       have HL2 := zh (letter_r w7 X INS s j2 d great HC7.out.tx hj2s hs inS_size ins0)
       go_wp2_with fail
       refine HL2.out.mono ?_
       rintro e w8 ⟨k8, h8⟩
       clear HL2 c1 c3 f1 f3
       rcases h8 with ⟨g, j3, hl2, rfl, ht8⟩ | ⟨hl2, rfl, j3, hj3, ht8⟩
       ·have HC8 := zh (HC7.out.txk hXl k8 ht8)
        obtain ⟨hg256, hj23, hj3⟩ := letF_ok hl2 hj2s ins0
        have HL3 := zh (show lettersF s.data.toList j = if g < f then none else some (btw f (g + 1 - f), j3) by rw [HL45.out, hl2])
        clear HC7 k8 ht8 hl2 HL45
        obtain ⟨_, c1, _, c3, _, cf⟩ := tx_cells HC8.out.tx
        have f1 := cf 1; have f3 := cf 3
        clear cf
        by_cases hgf : g < f
        ·have hgi : (g : Int) < f := by omega
         have HN := zh (show C0 = none by rw [HC0.out, HL3.out, if_pos hgf]; rfl)
         have HC9 := zh ((HC8.out.txk hXl (Kb.setCell w8 ⟨X, 3, none⟩ (.bool true)) (HC8.out.tx.bad' true)).txk hXl (Kb.setCell _ ⟨X, 1, none⟩ (.int .i64 j2)) ((HC8.out.tx.bad' true).at' j2))
         clear HL3
         go_wp2_with fail
         generalize (w8.setCell ⟨X, 3, none⟩ (.bool true)).setCell ⟨X, 1, none⟩ (.int .i64 j2) = w9 at HC9 ⊢
         clear c1 c3 f1 f3 HC8
         obtain ⟨_, c1, _, c3, _, cf⟩ := tx_cells HC9.out.tx
         clear cf
         go_wp2_with fail
         go_loopw [9] (fun v wr => v = .int .i64 f ∧ wr = w9) (fun _ _ => 0)
         case atStart => exact ⟨rfl, rfl⟩
         case round =>
          obtain ⟨rfl, rfl⟩ := hrel
          go_wp2_with fail
          go_roundg gk
          case measure => omega
          case rel => exact ⟨false, true, st, j2, rfl, hj2s, HC9.out, (fun _ => HN.out), (fun h => by cases h)⟩

        ·have hgi : ¬ (g : Int) < f := by omega
         have hgd : decide ((g : Int) < f) = false := decide_eq_false hgi
         have HN := zh (show classP s.data.toList gk (st.un (btw f (g + 1 - f))) j3 = C0 by rw [HC0.out, HL3.out, if_neg hgf]; rfl)
         clear HL3
         go_wp2_with fail
         go_loopw [9] (fun v wr => ∃ b : Nat, f ≤ b ∧ b ≤ g + 1 ∧ v = .int .i64 b ∧ Hid (CrS w X s d great wr j3 false (fun m => st.hasN m || decide (f ≤ m ∧ m < b)))) (fun v _ => g + 1 - (intOf v).toNat)
         case atStart => exact ⟨f, by omega, by omega, rfl, HC8.out.ext (fun m _ => by rw [decide_eq_false (by omega), Bool.or_false])⟩
         case round =>
          obtain ⟨b, hfb, hbg, rfl, HRR⟩ := hrel
          obtain ⟨_, _, _, t3, _, _⟩ := tx_cells HRR.out.tx
          rcases Nat.lt_or_ge g b with hgt | hle
          ·have hbi : ¬ (b : Int) ≤ (g : Nat) := by omega
           obtain rfl : b = g + 1 := by omega
           have hbd : decide (((g + 1 : Nat) : Int) ≤ (g : Nat)) = false := by simp; omega
           go_wp2_with fail
           go_roundg gk
           case measure => omega
           case rel => exact ⟨false, false, st.un (btw f (g + 1 - f)), j3, rfl, hj3, HRR.out.ext (fun m hm => by rw [Ws.hasN_un _ _ m hm, btw_has f (g + 1 - f) m (by omega) hm]; congr 2; rw [eq_iff_iff]; omega), (fun h => by cases h), fun _ => ⟨HN.out, by omega, HOK.out.un (btw_ok _ _), ⟨(fun h => by cases h), (fun h => absurd h (by rw [show g + 1 - f = (g - f) + 1 by omega]; exact un_ne (by omega)))⟩⟩⟩
          ·have hbi : (b : Int) ≤ (g : Nat) := by omega
           have hb0 : (0 : Int) ≤ b := by omega
           have hb256 : b < 256 := by omega
           have hbi2 : (b : Int) < 256 := by omega
           obtain ⟨z1, z2⟩ := HRR.out.nd.cell hb256
           have HF := zh (show CrS w X s d great (wr.setCell ⟨w.heap.size + 1, 1 + b, none⟩ (.bool true)) j3 false (fun m => st.hasN m || decide (f ≤ m ∧ m < b + 1)) from (HRR.out.set hXl hb256 true).ext (fun m hm => by
            by_cases e : m = b
            ·subst e; rw [if_pos rfl, decide_eq_true (by omega), Bool.or_true]
            ·rw [if_neg e]
             congr 1
             rw [Bool.eq_iff_iff]; simp; omega))
           go_wp2
           go_roundw
           case rel => exact ⟨b + 1, by omega, by omega, by go_num, HF.out⟩
           case measure => simp [intOf]; omega

       ·have HC8 := zh (HC7.out.txk hXl k8 ht8)
        have HN := zh (show C0 = none by rw [HC0.out, HL45.out, hl2]; rfl)
        clear HC7 k8 ht8 hl2 HL45
        obtain ⟨_, c1, _, c3, _, cf⟩ := tx_cells HC8.out.tx
        clear cf
        rcases Nat.eq_zero_or_pos f with hf0 | hf0
        ·subst hf0
         skip
         go_wp2_with fail
         go_loopw [9] (fun v wr => v = .int .i64 0 ∧ wr = w8) (fun _ _ => 0)
         case atStart => exact ⟨rfl, rfl⟩
         case round =>
          obtain ⟨rfl, rfl⟩ := hrel
          go_wp2_with fail
          go_roundg gk
          case measure => omega
          case rel => exact ⟨false, true, st, j3, rfl, hj3, HC8.out, (fun _ => HN.out), (fun h => by cases h)⟩
        ·have hfi : ¬ (f : Int) ≤ 0 := by omega
         have hfd : decide ((f : Int) ≤ 0) = false := decide_eq_false hfi
         skip
         go_wp2_with fail
         go_loopw [9] (fun v wr => v = .int .i64 f ∧ wr = w8) (fun _ _ => 0)
         case atStart => exact ⟨rfl, rfl⟩
         case round =>
          obtain ⟨rfl, rfl⟩ := hrel
          go_wp2_with fail
          go_roundg gk
          case measure => omega
          case rel => exact ⟨false, true, st, j3, rfl, hj3, HC8.out, (fun _ => HN.out), (fun h => by cases h)⟩

      ·rw [decide_eq_false h45]
       have HN := zh (show classP s.data.toList gk (st.un (btw f (f + 1 - f))) j1 = C0 by rw [HC0.out]; unfold lettersF; rw [HLF.out]; show classP _ _ _ _ = (if nx s.data.toList j1 = 45 then _ else _ : Option (Ws × Nat)).bind _; rw [if_neg h45, show f + 1 - f = 1 by omega]; rfl)
       clear h45 HLF f1 c1
       go_wp2_with fail
       go_loopw [9] (fun v wr => ∃ b : Nat, f ≤ b ∧ b ≤ f + 1 ∧ v = .int .i64 b ∧ Hid (CrS w X s d great wr j1 false (fun m => st.hasN m || decide (f ≤ m ∧ m < b)))) (fun v _ => f + 1 - (intOf v).toNat)
       case atStart => exact ⟨f, by omega, by omega, rfl, HC6.out.ext (fun m _ => by rw [decide_eq_false (by omega), Bool.or_false])⟩
       case round =>
        obtain ⟨b, hfb, hbg, rfl, HRR⟩ := hrel
        obtain ⟨_, _, _, t3, _, _⟩ := tx_cells HRR.out.tx
        rcases Nat.lt_or_ge f b with hgt | hle
        ·have hbi : ¬ (b : Int) ≤ (f : Nat) := by omega
         obtain rfl : b = f + 1 := by omega
         have hbd : decide (((f + 1 : Nat) : Int) ≤ (f : Nat)) = false := by simp; omega
         go_wp2_with fail
         go_roundg gk
         case measure => omega
         case rel => exact ⟨false, false, st.un (btw f (f + 1 - f)), j1, rfl, hj1, HRR.out.ext (fun m hm => by rw [Ws.hasN_un _ _ m hm, btw_has f (f + 1 - f) m (by omega) hm]; congr 2; rw [eq_iff_iff]; omega), (fun h => by cases h), fun _ => ⟨HN.out, by omega, HOK.out.un (btw_ok _ _), ⟨(fun h => by cases h), (fun h => absurd h (by rw [show f + 1 - f = (f - f) + 1 by omega]; exact un_ne (by omega)))⟩⟩⟩
        ·have hbi : (b : Int) ≤ (f : Nat) := by omega
         have hb0 : (0 : Int) ≤ b := by omega
         have hb256 : b < 256 := by omega
         have hbi2 : (b : Int) < 256 := by omega
         obtain ⟨z1, z2⟩ := HRR.out.nd.cell hb256
         have HF := zh (show CrS w X s d great (wr.setCell ⟨w.heap.size + 1, 1 + b, none⟩ (.bool true)) j1 false (fun m => st.hasN m || decide (f ≤ m ∧ m < b + 1)) from (HRR.out.set hXl hb256 true).ext (fun m hm => by
          by_cases e : m = b
          ·subst e; rw [if_pos rfl, decide_eq_true (by omega), Bool.or_true]
          ·rw [if_neg e]
           congr 1
           rw [Bool.eq_iff_iff]; simp; omega))
         go_wp2
         go_roundw
         case rel => exact ⟨b + 1, by omega, by omega, by go_num, HF.out⟩
         case measure => simp [intOf]; omega

     ·have HC5 := zh (HC4.out.txk hXl k5 ht5)
      have HN := zh (show C0 = none by rw [HC0.out]; unfold lettersF; rw [hl1]; rfl)
      clear HC4 k5 ht5 hl1
      obtain ⟨_, c1, _, c3, _, cf⟩ := tx_cells HC5.out.tx
      clear cf
      go_wp2_with fail
      go_loopw [9] (fun v wr => v = .int .i64 0 ∧ wr = w5) (fun _ _ => 0)
      case atStart => exact ⟨rfl, rfl⟩
      case round =>
       obtain ⟨rfl, rfl⟩ := hrel
       go_wp2_with fail
       go_roundg gk
       case measure => omega
       case rel => exact ⟨false, true, st, j1, rfl, hj1, HC5.out, (fun _ => HN.out), (fun h => by cases h)⟩
end Go.Proofs.YtejdfpieblkapaaGreatDoor

/- Carried from another seat. -/
namespace Go.Proofs.YtejdfpieblkapaaGreatDoor
open Go.RowKit Go.Shelf

structure FcS (w : World) (X : Nat) (s : ByteArray) (wr : World) (d : Int) (j : Nat) (bad great : Bool) (r : Rx) (cs : List Value) : Prop where
 tx : TxB wr X s j d bad great
 res : RfB wr w.heap.size (fun _ => false)
 nd : wr.heap[w.heap.size + 1]? = some (.cells cs.toArray 36 (0, 0))
 rf : RfQ (fun k => w.heap.size + 2 ≤ k) wr r cs
 kb : Kb (fun k => k = X) w wr
section
variable {w : World} {X : Nat} {s : ByteArray} {wr w2 : World} {d d' : Int} {j j' : Nat} {bad bad' great great' : Bool} {r : Rx} {cs : List Value}
theorem FcS.txk (H : FcS w X s wr d j bad great r cs) (hX : X < w.heap.size) (k : Kb (fun i => i = X) wr w2) (t : TxB w2 X s j' d' bad' great') : FcS w X s w2 d' j' bad' great' r cs :=
 ⟨t, (k.block _ (lt_of_heap H.res) (by omega)).trans H.res, (k.block _ (lt_of_heap H.nd) (by omega)).trans H.nd, H.rf.keep k (fun i _ h he => by omega), H.kb.trans k (fun _ _ h => h)⟩
theorem FcS.below (H : FcS w X s wr d j bad great r cs) (hb : Below wr.heap.size wr w2) : FcS w X s w2 d j bad great r cs :=
 ⟨H.tx.below hb, (hb.block _ (lt_of_heap H.res)).trans H.res, (hb.block _ (lt_of_heap H.nd)).trans H.nd, H.rf.keep (Kb.of_below (fun _ => False) hb) (fun _ _ _ h => h), H.kb.trans (Kb.of_below _ hb) (fun _ _ h => h)⟩
theorem FcS.put (H : FcS w X s wr d j bad great r cs) (hX : X < w.heap.size) {r' : Rx} {cs' : List Value} (hr : RfQ (fun k => w.heap.size + 2 ≤ k) wr r' cs') : FcS w X s (wr.setRow (w.heap.size + 1) cs'.toArray) d j bad great r' cs' :=
 have kb := setRow_kb wr (w.heap.size + 1) cs'.toArray
 ⟨(kb.block _ (lt_of_heap H.tx) (by omega)).trans H.tx, (kb.block _ (lt_of_heap H.res) (by omega)).trans H.res, setRow_heap wr _ _ _ 36 (0, 0) H.nd, hr.keep kb (fun i _ h he => by omega), H.kb.trans kb (fun i hi h => by omega)⟩
theorem FcS.fin (H : FcS w X s wr d j bad great r cs) (hX : X < w.heap.size) : Kb (fun k => k = X) w (wr.setRow w.heap.size cs.toArray) ∧ TxB (wr.setRow w.heap.size cs.toArray) X s j d bad great ∧ (wr.setRow w.heap.size cs.toArray).heap[w.heap.size]? = some (.cells cs.toArray 36 (0, 0)) ∧ RfQ (fun k => w.heap.size ≤ k) (wr.setRow w.heap.size cs.toArray) r cs :=
 have kb := setRow_kb wr w.heap.size cs.toArray
 ⟨H.kb.trans kb (fun i hi h => by omega), (kb.block _ (lt_of_heap H.tx) (by omega)).trans H.tx, setRow_heap wr _ _ _ 36 (0, 0) H.res, (H.rf.keep kb (fun i _ h he => by omega)).mono (fun i _ h => by omega)⟩
theorem FcS.set {f : Nat → Bool} {u u' : Ws} (H : FcS w X s wr d j bad great (.set u) (RfC 0 (bls f) (.slice none 0 0))) (hX : X < w.heap.size) {k : Nat} (hk : k < 256) (v : Bool) (hu : ∀ m, m < 256 → (if m = k then v else f m) = u'.hasN m) : FcS w X s (wr.setCell ⟨w.heap.size + 1, 1 + k, none⟩ (.bool v)) d j bad great (.set u') (RfC 0 (bls (fun i => if i = k then v else f i)) (.slice none 0 0)) :=
 have kb := Kb.setCell wr ⟨w.heap.size + 1, 1 + k, none⟩ (.bool v)
 ⟨(kb.block _ (lt_of_heap H.tx) (by show X ≠ w.heap.size + 1; omega)).trans H.tx, (kb.block _ (lt_of_heap H.res) (by show w.heap.size ≠ w.heap.size + 1; omega)).trans H.res, RfB.set (f := f) H.nd hk v, (by show _ = _; rw [bls_ext hu]; rfl), H.kb.trans kb (fun i hi h => by have h' : i = w.heap.size + 1 := h; omega)⟩
end
def FaTo (X : Nat) (s : ByteArray) (d i : Nat) (great : Bool) (w : World) (e : Ending) (w' : World) : Prop :=
 ∃ r cs gr, e = .returned (.agg cs.toArray) ∧ RfQ (fun k => w.heap.size ≤ k) w' r cs ∧ Kb (fun j => j = X) w w' ∧ (gr = true → great = true ∨ FDead s.data.toList d i) ∧
  ((∃ j, FacP s.data.toList d i r j ∧ i < j ∧ j ≤ s.size ∧ r.size + 3 ≤ 1000 * (j - i) ∧ TxB w' X s j d false gr) ∨ (∃ (j : Nat) (d' : Int), j ≤ s.size ∧ r.size ≤ 3000 * (s.size + 1 - i) ∧ TxB w' X s j d' true gr ∧ FDead s.data.toList d i))
def OrTo (X : Nat) (s : ByteArray) (d i : Nat) (great : Bool) (w : World) (e : Ending) (w' : World) : Prop :=
 ∃ r cs gr, e = .returned (.agg cs.toArray) ∧ RfQ (fun k => w.heap.size ≤ k) w' r cs ∧ Kb (fun j => j = X) w w' ∧ (gr = true → great = true ∨ ODead s.data.toList d i ∨ 400 < r.size) ∧
  ((∃ j, OrP s.data.toList d [] i r j ∧ i ≤ j ∧ j ≤ s.size ∧ (j = s.size ∨ nx s.data.toList j = 41) ∧ r.size ≤ 1000 * (j - i) + 1 ∧ TxB w' X s j d false gr) ∨ (∃ (j : Nat) (d' : Int), j ≤ s.size ∧ r.size ≤ 3000 * (s.size + 1 - i) ∧ TxB w' X s j d' true gr ∧ ODead s.data.toList d i))
def FacOk (s : ByteArray) (i : Nat) : Prop := ∀ (w : World) (X : Nat) (great : Bool) (d : Nat), TxB w X s i d false great → i < s.size → nx s.data.toList i ≠ 124 → nx s.data.toList i ≠ 41 → d ≤ 50 → Calls Tryz.prog 118 #[ptr X] w (FaTo X s d i great w)
def OrOk (s : ByteArray) (i : Nat) : Prop := ∀ (w : World) (X : Nat) (great : Bool) (d : Nat), TxB w X s i d false great → i ≤ s.size → d ≤ 50 → Calls Tryz.prog 76 #[ptr X] w (OrTo X s d i great w)
structure FcL (w : World) (X : Nat) (s : ByteArray) (d i : Nat) (great0 : Bool) (wr : World) (d' : Int) (j : Nat) (bad gr : Bool) (r : Rx) (cs : List Value) : Prop where
 st : FcS w X s wr d' j bad gr r cs
 js : j ≤ s.size
 gr : gr = true → great0 = true ∨ FDead s.data.toList d i
 ok : bad = false → FacS s.data.toList d i r j ∧ d' = d ∧ i < j ∧ r.size + 3 ≤ 1000 * (j - i)
 bad : bad = true → FDead s.data.toList d i ∧ r.size ≤ 3000 * (s.size + 1 - i)
theorem FcL.to {w : World} {X : Nat} {s : ByteArray} {d i : Nat} {great0 : Bool} {wr : World} {d' : Int} {j : Nat} {bad gr : Bool} {r : Rx} {cs : List Value} (H : FcL w X s d i great0 wr d' j bad gr r cs) (hX : X < w.heap.size) (hst : bad = false → inS REP (nx s.data.toList j) = false) : FaTo X s d i great0 w (.returned (.agg cs.toArray)) (wr.setRow w.heap.size cs.toArray) := by
 obtain ⟨k1, k2, _, k4⟩ := H.st.fin hX
 refine ⟨r, cs, gr, rfl, k4, k1, H.gr, ?_⟩
 cases bad with
 | false =>
  obtain ⟨h1, rfl, h3, h4⟩ := H.ok rfl
  exact .inl ⟨j, h1.ends _ _ (.stop (hst rfl)), h3, H.js, h4, k2⟩
 | true =>
  obtain ⟨h1, h2⟩ := H.bad rfl
  exact .inr ⟨j, d', H.js, h2, k2, h1⟩
theorem rep_three {c : Nat} (hc : c < 256) (h : inS REP c = true) : c = 42 ∨ c = 43 ∨ c = 63 := by
 rw [inS_mem, decide_eq_true_iff] at h
 have h3 : c.toUInt8 = 42 ∨ c.toUInt8 = 43 ∨ c.toUInt8 = 63 := by simpa [REP] using h
 have hh : ∀ x : UInt8, c.toUInt8 = x → c = x.toNat := fun x e => by
  rw [← e, UInt8.toNat_ofNat']; exact (Nat.mod_eq_of_lt hc).symm
 rcases h3 with h3 | h3 | h3
 ·exact .inl (hh _ h3)
 ·exact .inr (.inl (hh _ h3))
 ·exact .inr (.inr (hh _ h3))
theorem dot_has (m : Nat) (hm : m < 256) : ((btw 10 1).inv 4).hasN m = !decide (m = 10) := by
 rw [Ws.hasN_inv _ (btw_ok _ _) m hm, btw_has 10 1 m (by omega) hm]
 congr 1
 rw [Bool.eq_iff_iff]; simp; omega
theorem TxB.deep' {w : World} {X : Nat} {s : ByteArray} {i : Nat} {d : Int} {bad great : Bool} (h : TxB w X s i d bad great) (d' : Int) : TxB (w.setCell ⟨X, 2, none⟩ (.int .i64 d')) X s i d' bad great := by
 unfold TxB at *
 rw [set_heap w X 2 _ _ _ _ h]; rfl
theorem TxB.great' {w : World} {X : Nat} {s : ByteArray} {i : Nat} {d : Int} {bad great : Bool} (h : TxB w X s i d bad great) (b : Bool) : TxB (w.setCell ⟨X, 4, none⟩ (.bool b)) X s i d bad b := by
 unfold TxB at *
 rw [set_heap w X 4 _ _ _ _ h]; rfl
theorem outS_size : OUT.size ≤ 1000 := by decide
theorem repS_size : REP.size ≤ 1000 := by decide

end Go.Proofs.YtejdfpieblkapaaGreatDoor

/- Carried from another seat. -/
namespace Go.Proofs.YtejdfpieblkapaaGreatDoor
open Go.RowKit Go.Shelf

theorem st30o {ops : Array Oper} {rest : List Oper} {o : Oper} {a : Act} {w : World} {Q : Exit → Act → World → Prop} (hg : o.guard = none) (hd : o.dst = none) (x y : Operand) (ho : o.op = .store 36 x y) (g : Nat) (cs old : List Value) (hx : a.eval x = .pointer (some ⟨g, 0, none⟩)) (hy : a.eval y = .agg cs.toArray) (hb : w.heap[g]? = some (.cells old.toArray 36 (0, 0))) (hold : old.length = 258) (hl : cs.length = 258) (h1 : ∀ v ∈ cs, v.oneCell' = true)
  (h : wpList Tryz.prog ops Q rest a (w.setRow g cs.toArray)) : wpList Tryz.prog ops Q (o :: rest) a w := st30 hg x y ho g cs old hx hy hb hold hl h1 (by rw [hd]; exact h)
structure OrM (w : World) (X : Nat) (s : ByteArray) (wr : World) (d : Int) (j : Nat) (bad great : Bool) (va : Value) (ways : List Rx) (ca : List Value) (vl : Value) (row : List Rx) (cl : List Value) (Q : Nat → Prop) : Prop where
 tx : TxB wr X s j d bad great
 res : RfB wr w.heap.size (fun _ => false)
 kb : Kb (fun k => k = X) w wr
 lo : ∀ k, Q k → w.heap.size + 1 ≤ k ∧ k < wr.heap.size
 oa : wr.ownsRow (w.heap.size + 1) 36 258 va ways.length ca
 ol : wr.ownsRow (w.heap.size + 1) 36 258 vl row.length cl
 ra : RfR Q wr ways ca
 rl : RfR Q wr row cl
 na : ∀ g, va.ownBlock = some g → ¬ Q g
 nl : ∀ g, vl.ownBlock = some g → ¬ Q g
 ne : ∀ g, va.ownBlock = some g → vl.ownBlock ≠ some g
section
variable {w : World} {X : Nat} {s : ByteArray} {wr : World} {d : Int} {j : Nat} {bad great : Bool} {va : Value} {ways : List Rx} {ca : List Value} {vl : Value} {row : List Rx} {cl : List Value} {Q : Nat → Prop}
theorem OrM.swap (H : OrM w X s wr d j bad great va ways ca vl row cl Q) : OrM w X s wr d j bad great vl row cl va ways ca Q := ⟨H.tx, H.res, H.kb, H.lo, H.ol, H.oa, H.rl, H.ra, H.nl, H.na, fun g h h2 => H.ne g h2 h⟩
theorem OrM.drop (H : OrM w X s wr d j bad great va ways ca vl row cl Q) : OrM w X s wr d j bad great va ways ca (.slice none 0 0) [] [] Q :=
 ⟨H.tx, H.res, H.kb, H.lo, H.oa, World.ownsRow_nil _ _ _ _, H.ra, rfl, H.na, (fun g h => by simp [Value.ownBlock] at h), (fun g _ h2 => by simp [Value.ownBlock] at h2)⟩
theorem own_kept {w w' : World} {base n : Nat} {v : Value} {xs : List Value} {ex : Nat → Prop} (h : w.ownsRow base 36 258 v n xs) (hk : Kb ex w w') (hx : ∀ g, v.ownBlock = some g → ¬ ex g) : w'.ownsRow base 36 258 v n xs := by
 refine ⟨h.1, ?_⟩
 rcases h.2 with hn | ⟨g, cap, cur, rfl, hb, hg, rest⟩
 ·exact .inl hn
 ·exact .inr ⟨g, cap, cur, rfl, hb, (hk.block g (lt_of_heap hg) (hx g rfl)).trans hg, rest⟩
theorem OrM.txk (H : OrM w X s wr d j bad great va ways ca vl row cl Q) (hX : X < w.heap.size) {w2 : World} {d' : Int} {j' : Nat} {bad' great' : Bool} (k : Kb (fun i => i = X) wr w2) (t : TxB w2 X s j' d' bad' great') : OrM w X s w2 d' j' bad' great' va ways ca vl row cl Q :=
 ⟨t, (k.block _ (lt_of_heap H.res) (by omega)).trans H.res, H.kb.trans k (fun _ _ h => h), (fun i h => ⟨(H.lo i h).1, Nat.lt_of_lt_of_le (H.lo i h).2 k.size⟩), own_kept H.oa k (fun g h he => by have := (H.oa.lt g h).1; omega), own_kept H.ol k (fun g h he => by have := (H.ol.lt g h).1; omega), H.ra.keep k (fun i _ h he => by have := (H.lo i h).1; omega), H.rl.keep k (fun i _ h he => by have := (H.lo i h).1; omega), H.na, H.nl, H.ne⟩
theorem OrM.below (H : OrM w X s wr d j bad great va ways ca vl row cl Q) (hX : X < w.heap.size) {w2 : World} (hb : Below wr.heap.size wr w2) : OrM w X s w2 d j bad great va ways ca vl row cl Q := H.txk hX (Kb.of_below _ hb) (H.tx.below hb)
theorem OrM.add (H : OrM w X s wr d j bad great va ways ca vl row cl Q) (hX : X < w.heap.size) {w3 w6 : World} {d2 : Int} {j2 : Nat} {bad2 great2 : Bool} (hk : Kb (fun i => i = X) wr w3) (ht : TxB w3 X s j2 d2 bad2 great2) {r : Rx} {cs : List Value} (hq : RfQ (fun k => Q k ∨ wr.heap.size ≤ k) w3 r cs) {o : Obj} {g cap : Nat}
  (hown : w6.ownsRow (w.heap.size + 1) 36 258 (.slice (some ⟨g, 0, none⟩) (row.length + 1) cap) (row.length + 1) (cl ++ cs)) (hgrow : (w3.alloc o).grownBy w6 vl.ownBlock) (hat : vl.ownBlock = some g ∨ g = w3.heap.size + 1) :
  OrM w X s w6 d2 j2 bad2 great2 va ways ca (.slice (some ⟨g, 0, none⟩) (row.length + 1) cap) (row ++ [r]) (cl ++ cs) (fun k => Q k ∨ (wr.heap.size ≤ k ∧ k < w3.heap.size)) := by
 have hal : Below w3.heap.size w3 (w3.alloc o) := (Below.refl _ w3).alloc (Nat.le_refl _) o
 have k6 := Kb.of_grown hgrow
 have k36' : Kb (fun i => some i = vl.ownBlock) w3 w6 := (Kb.of_below _ hal).trans k6 (fun _ _ h => h)
 have k36 : Kb (fun i => i = X ∨ some i = vl.ownBlock) wr w6 := (hk.wider (fun _ h => .inl h)).trans (k36'.wider (fun _ h => .inr h)) (fun _ _ h => h)
 have hlb : ∀ k, vl.ownBlock = some k → w.heap.size + 1 ≤ k ∧ k < wr.heap.size := fun k h => H.ol.lt k h
 have hab : ∀ k, va.ownBlock = some k → w.heap.size + 1 ≤ k ∧ k < wr.heap.size := fun k h => H.oa.lt k h
 have hsz := hk.size
 have hsz6 := k36'.size
 have hR := lt_of_heap H.res
 refine ⟨?_, ?_, ?_, ?_, ?_, ?_, ?_, ?_, ?_, ?_, ?_⟩
 ·exact (k36'.block X (lt_of_heap ht) (fun h => by have := hlb X h.symm; omega)).trans ht
 ·exact (k36.block _ hR (fun h => by rcases h with h | h; omega; have := hlb _ h.symm; omega)).trans H.res
 ·exact H.kb.trans k36 (fun i hi h => by rcases h with h | h; exact h; have := hlb _ h.symm; omega)
 ·intro k h
  rcases h with h | h
  ·have := H.lo k h; omega
  ·omega
 ·refine own_kept H.oa k36 (fun g0 h he => ?_)
  rcases he with he | he
  ·have := hab g0 h; omega
  ·exact H.ne g0 h he.symm
 ·rw [List.length_append]; exact hown
 ·refine (H.ra.keep k36 (fun i _ h he => ?_)).mono (fun i _ h => .inl h)
  rcases he with he | he
  ·have := H.lo i h; omega
  ·exact H.nl i he.symm h
 ·refine RfR.snoc ?_ ((H.rl.keep k36 (fun i _ h he => ?_)).mono (fun i _ h => .inl h))
  ·refine (hq.mono (Q' := fun k => Q k ∨ (wr.heap.size ≤ k ∧ k < w3.heap.size)) (fun i hi h => h.imp id (fun h => ⟨h, hi⟩))).keep k36' (fun i _ h he => ?_)
   rcases h with h | h
   ·exact H.nl i he.symm h
   ·have := hlb i he.symm; omega
  ·rcases he with he | he
   ·have := H.lo i h; omega
   ·exact H.nl i he.symm h
 ·intro g0 h hq'
  rcases hq' with hq' | hq'
  ·exact H.na g0 h hq'
  ·have := hab g0 h; omega
 ·intro g0 h hq'
  have e : g = g0 := by simpa [Value.ownBlock] using h
  subst e
  rcases hat with hat | hat
  ·rcases hq' with hq' | hq'
   ·exact H.nl g hat hq'
   ·have := hlb g hat; omega
  ·rcases hq' with hq' | hq'
   ·have := H.lo g hq'; omega
   ·omega
 ·intro g0 h h2
  have e : g = g0 := by simpa [Value.ownBlock] using h2
  subst e
  rcases hat with hat | hat
  ·exact H.ne g h hat
  ·have := hab g h; omega
theorem OrM.pairs (H : OrM w X s wr d j bad great va ways ca vl row cl Q) : ∃ A cap, vl = .slice A row.length cap ∧ row.length ≤ cap ∧ (row ≠ [] → ∃ g o, A = some ⟨g, o, none⟩ ∧ g < wr.heap.size ∧ wr.rangeAt g o cl) := by
 rcases H.ol.2 with ⟨hv, h0⟩ | ⟨g, cap, cur, hv, hb, hg, hc, _⟩
 ·refine ⟨none, 0, by rw [hv, h0], by omega, fun hne => ?_⟩
  exact absurd (List.eq_nil_of_length_eq_zero h0) hne
 ·refine ⟨some ⟨g, 0, none⟩, cap, hv, hc, fun _ => ⟨g, 0, rfl, lt_of_heap hg, fun k v hkv => ?_⟩⟩
  have := H.ol.cells (g := g) (by rw [hv]; rfl) k v hkv
  rwa [Addr.add_mid] at this
end
structure OrI (w : World) (X : Nat) (s : ByteArray) (d i : Nat) (great0 : Bool) (va vl : Value) (wr : World) (d' : Int) (j ia : Nat) (bad gr : Bool) (ways row : List Rx) : Prop where
 m : ∃ ca cl Q, OrM w X s wr d' j bad gr va ways ca vl row cl Q
 js : j ≤ s.size
 ia1 : i ≤ ia
 ia2 : ia ≤ s.size
 gr : gr = true → great0 = true ∨ ODead s.data.toList d i
 sw : szs ways + 998 * ways.length ≤ 1000 * (ia - i)
 lw : ways.length ≤ ia - i
 lr : row.length ≤ s.size + 1
 ok : bad = false → OrS s.data.toList d i ways row j ∧ d' = d ∧ ia ≤ j ∧ szs row + 3 * row.length ≤ 1000 * (j - ia) ∧ row.length ≤ j - ia
 bad : bad = true → ODead s.data.toList d i ∧ row ≠ [] ∧ szs ways + ways.length + szs row + row.length ≤ 3000 * (s.size + 1 - i) + 1
theorem OrI.fac {w : World} {X : Nat} {s : ByteArray} {d i : Nat} {great0 : Bool} {va vl : Value} {wr : World} {d' : Int} {j ia : Nat} {gr : Bool} {ways row : List Rx} (H : OrI w X s d i great0 va vl wr d' j ia false gr ways row) (hd : d ≤ 50) {w6 : World} {v6 : Value} {r : Rx} {gr2 : Bool} (hgr : gr2 = true → gr = true ∨ FDead s.data.toList d j)
  (hcase : (∃ j2, FacP s.data.toList d j r j2 ∧ j < j2 ∧ j2 ≤ s.size ∧ r.size + 3 ≤ 1000 * (j2 - j) ∧ ∃ ca cl Q, OrM w X s w6 d j2 false gr2 va ways ca v6 (row ++ [r]) cl Q) ∨ (∃ (j2 : Nat) (d2 : Int), j2 ≤ s.size ∧ r.size ≤ 3000 * (s.size + 1 - j) ∧ (∃ ca cl Q, OrM w X s w6 d2 j2 true gr2 va ways ca v6 (row ++ [r]) cl Q) ∧ FDead s.data.toList d j)) :
  ∃ d2 j2 bad2, OrI w X s d i great0 va v6 w6 d2 j2 ia bad2 gr2 ways (row ++ [r]) ∧ (bad2 = false → j < j2) := by
 obtain ⟨o1, o2, o3, o4, o5⟩ := H.ok rfl
 have hia := H.ia1
 have hgr' : gr2 = true → great0 = true ∨ ODead s.data.toList d i := fun h => by
  rcases hgr h with h | h
  ·exact H.gr h
  ·exact .inr (o1.dead h)
 have hsz : szs (row ++ [r]) = szs row + r.size := by rw [szs_append, szs_cons, szs_nil]; omega
 have hln : (row ++ [r]).length = row.length + 1 := by simp
 have hsw := H.sw; have hlw := H.lw; have hjs := H.js
 rcases hcase with ⟨j2, hf, hj, hj2, hr, hm⟩ | ⟨j2, d2, hj2, hr, hm, hdd⟩
 ·exact ⟨d, j2, false, ⟨hm, hj2, H.ia1, H.ia2, hgr', H.sw, H.lw, by rw [hln]; omega, (fun _ => ⟨o1.fac hf hd, rfl, by omega, by rw [hsz, hln]; omega, by rw [hln]; omega⟩), (fun h => by cases h)⟩, fun _ => hj⟩
 ·exact ⟨d2, j2, true, ⟨hm, hj2, H.ia1, H.ia2, hgr', H.sw, H.lw, by rw [hln]; omega, (fun h => by cases h), (fun _ => ⟨o1.dead hdd, by simp, by rw [hsz, hln]; omega⟩)⟩, fun h => by cases h⟩
theorem OrI.size {w : World} {X : Nat} {s : ByteArray} {d i : Nat} {great0 : Bool} {va vl : Value} {wr : World} {d' : Int} {j ia : Nat} {bad gr : Bool} {ways row : List Rx} (H : OrI w X s d i great0 va vl wr d' j ia bad gr ways row) : (bad = false → (orR (ways ++ [catR row])).size ≤ 1000 * (j - i) + 1) ∧ (bad = true → (orR (ways ++ [catR row])).size ≤ 3000 * (s.size + 1 - i)) := by
 have h1 := orR_sz (ways ++ [catR row]) (by simp)
 rw [szs_append, szs_cons, szs_nil, List.length_append] at h1
 have h1' : (orR (ways ++ [catR row])).size + 1 = szs ways + ((catR row).size + 0) + (ways.length + 1) := h1
 have hsw := H.sw
 have hia := H.ia1
 refine ⟨fun hb => ?_, fun hb => ?_⟩
 ·obtain ⟨_, _, o3, o4, o5⟩ := H.ok hb
  have hc : (catR row).size ≤ 1000 * (j - ia) + 1 := by
   by_cases hr : row = []
   ·rw [hr]; show 1 ≤ _; omega
   ·have := catR_sz row hr
    omega
  omega
 ·obtain ⟨_, hr, o3⟩ := H.bad hb
  have := catR_sz row hr
  omega
structure FnS (w : World) (X : Nat) (s : ByteArray) (wr : World) (d : Int) (j : Nat) (bad great : Bool) (r : Rx) (cs : List Value) (B : Nat) : Prop where
 tx : TxB wr X s j d bad great
 res : RfB wr w.heap.size (fun _ => false)
 nd : wr.heap[B]? = some (.cells cs.toArray 36 (0, 0))
 rf : RfQ (fun k => w.heap.size + 1 ≤ k) wr r cs
 kb : Kb (fun k => k = X) w wr
 bl : w.heap.size + 1 ≤ B
section
variable {w : World} {X : Nat} {s : ByteArray} {wr w2 : World} {d d' : Int} {j j' : Nat} {bad bad' great great' : Bool} {r : Rx} {cs : List Value} {B : Nat}
theorem FnS.txk (H : FnS w X s wr d j bad great r cs B) (hX : X < w.heap.size) (k : Kb (fun i => i = X) wr w2) (t : TxB w2 X s j' d' bad' great') : FnS w X s w2 d' j' bad' great' r cs B :=
 ⟨t, (k.block _ (lt_of_heap H.res) (by omega)).trans H.res, (k.block _ (lt_of_heap H.nd) (by have := H.bl; omega)).trans H.nd, H.rf.keep k (fun i _ h he => by omega), H.kb.trans k (fun _ _ h => h), H.bl⟩
theorem FnS.below (H : FnS w X s wr d j bad great r cs B) (hX : X < w.heap.size) (hb : Below wr.heap.size wr w2) : FnS w X s w2 d j bad great r cs B := H.txk hX (Kb.of_below _ hb) (H.tx.below hb)
theorem FnS.fin (H : FnS w X s wr d j bad great r cs B) (hX : X < w.heap.size) : Kb (fun k => k = X) w (wr.setRow w.heap.size cs.toArray) ∧ TxB (wr.setRow w.heap.size cs.toArray) X s j d bad great ∧ (wr.setRow w.heap.size cs.toArray).heap[w.heap.size]? = some (.cells cs.toArray 36 (0, 0)) ∧ RfQ (fun k => w.heap.size ≤ k) (wr.setRow w.heap.size cs.toArray) r cs :=
 have kb := setRow_kb wr w.heap.size cs.toArray
 ⟨H.kb.trans kb (fun i hi h => by omega), (kb.block _ (lt_of_heap H.tx) (by omega)).trans H.tx, setRow_heap wr _ _ _ 36 (0, 0) H.res, (H.rf.keep kb (fun i _ h he => by omega)).mono (fun i _ h => by omega)⟩
theorem OrM.box {va : Value} {ways : List Rx} {ca : List Value} {vl : Value} {row : List Rx} {cl : List Value} {Q : Nat → Prop} (H : OrM w X s wr d j bad great va ways ca vl row cl Q) (_hX : X < w.heap.size) (hq : RfQ (fun k => Q k ∨ wr.heap.size ≤ k) w2 r cs) (hb : Below wr.heap.size wr w2) :
  FnS w X s ((w2.alloc (.cells Tryz.zeroCells36 36)).setRow w2.heap.size cs.toArray) d j bad great r cs w2.heap.size := by
 have hR := lt_of_heap H.res
 have h2 := hb.size
 have hal : Below w2.heap.size w2 (w2.alloc (.cells Tryz.zeroCells36 36)) := (Below.refl _ w2).alloc (Nat.le_refl _) _
 have kb := setRow_kb (w2.alloc (.cells Tryz.zeroCells36 36)) w2.heap.size cs.toArray
 have k2 : Kb (fun i => i = w2.heap.size) w2 ((w2.alloc (.cells Tryz.zeroCells36 36)).setRow w2.heap.size cs.toArray) := (Kb.of_below _ hal).trans kb (fun _ _ h => h)
 have t2 := H.tx.below hb
 have r2 := (hb.block _ hR).trans H.res
 refine ⟨(k2.block X (lt_of_heap t2) (by have := lt_of_heap t2; omega)).trans t2, (k2.block _ (lt_of_heap r2) (by have := lt_of_heap r2; omega)).trans r2, setRow_heap _ _ _ _ 36 (0, 0) (alloc_res w2), (hq.keep k2 (fun i hi _ he => by omega)).mono (fun i _ h => ?_), (H.kb.trans (Kb.of_below _ hb) (fun _ _ h => h)).trans k2 (fun i hi h => ?_), by omega⟩
 ·rcases h with h | h
  ·exact (H.lo i h).1
  ·omega
 ·have := H.kb.size; omega
end
theorem OrI.to {w : World} {X : Nat} {s : ByteArray} {d i : Nat} {great0 : Bool} {va vl : Value} {wr : World} {d' : Int} {j ia : Nat} {bad gr : Bool} {ways row : List Rx} (H : OrI w X s d i great0 va vl wr d' j ia bad gr ways row) (hX : X < w.heap.size) (hL : s.data.toList.length = s.size) (hend : bad = false → j = s.size ∨ nx s.data.toList j = 41) {w9 : World} {cs : List Value} {gr' : Bool} {B : Nat} (hF : FnS w X s w9 d' j bad gr' (orR (ways ++ [catR row])) cs B) (hg : gr' = true → gr = true ∨ 400 < (orR (ways ++ [catR row])).size) : OrTo X s d i great0 w (.returned (.agg cs.toArray)) (w9.setRow w.heap.size cs.toArray) := by
 obtain ⟨k1, k2, _, k4⟩ := hF.fin hX
 obtain ⟨z1, z2⟩ := H.size
 refine ⟨_, cs, gr', rfl, k4, k1, fun h => ?_, ?_⟩
 ·rcases hg h with h | h
  ·exact (H.gr h).imp id .inl
  ·exact .inr (.inr h)
 ·cases bad with
  | false =>
   obtain ⟨o1, o2, o3, _, _⟩ := H.ok rfl
   subst o2
   have := H.ia1
   exact .inl ⟨j, o1.last (by rw [hL]; exact hend rfl), by omega, H.js, hend rfl, z1 rfl, k2⟩
  | true => exact .inr ⟨j, d', H.js, z2 rfl, k2, (H.bad rfl).1⟩
end Go.Proofs.YtejdfpieblkapaaGreatDoor
