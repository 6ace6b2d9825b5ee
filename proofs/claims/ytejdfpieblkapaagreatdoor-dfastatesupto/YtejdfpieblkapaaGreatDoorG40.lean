/- Rules: what stands between two texts. -/
import Derived.Test.YtejdfpieblkapaaGreatDoorG30
import Derived.Test.YtejdfpieblkapaaGreatDoorM64
import Derived.Test.YtejdfpieblkapaaGreatDoorM60
import Derived.Laws.CopyOwn
import Derived.Deep.DeepCutAuto
namespace Go.Proofs.YtejdfpieblkapaaGreatDoor
open Go.RowKit Go.Shelf

structure RuS (w wr : World) (va : Value) (ra : List Rx) (bs : List Nat) (vb : Value) (rb : List Rx) (cb : List Value) (Q : Nat → Prop) : Prop where
 bl : Below w.heap.size w wr
 oa : wr.ownsRow w.heap.size 68 1 va bs.length (bs.map ptr)
 na : NdsQ wr Q ra bs
 ob : wr.ownsRow w.heap.size 36 258 vb rb.length cb
 nb : RfR Q wr rb cb
 lo : ∀ k, Q k → w.heap.size ≤ k ∧ k < wr.heap.size
 xa : ∀ g, va.ownBlock = some g → ¬ Q g
 xb : ∀ g, vb.ownBlock = some g → ¬ Q g
theorem own_ty' {w : World} {base e size n : Nat} {v : Value} {xs : List Value} (h : w.ownsRow base e size v n xs) {g : Nat} (hg : v.ownBlock = some g) : base ≤ g ∧ ∃ cs fz, w.heap[g]? = some (.cells cs e fz) := by
 rcases h.2 with ⟨hv, hn⟩ | ⟨g', cap, cur, hv, hb, hh, _⟩
 ·rw [hv] at hg; simp [Value.ownBlock] at hg
 ·rw [hv] at hg
  have e' : g' = g := by simpa [Value.ownBlock] using hg
  subst e'
  exact ⟨hb, _, _, hh⟩
theorem own_keep' {w w' : World} {base e size n : Nat} {v : Value} {xs : List Value} {ex : Nat → Prop} (h : w.ownsRow base e size v n xs) (hk : Kb ex w w') (hx : ∀ g, v.ownBlock = some g → ¬ ex g) : w'.ownsRow base e size v n xs := by
 refine ⟨h.1, ?_⟩
 rcases h.2 with hn | ⟨g, cap, cur, rfl, hb, hg, rest⟩
 ·exact .inl hn
 ·exact .inr ⟨g, cap, cur, rfl, hb, (hk.block g (lt_of_heap hg) (hx g rfl)).trans hg, rest⟩
section
variable {w wr w2 : World} {va vb : Value} {ra rb : List Rx} {bs : List Nat} {cb : List Value} {Q : Nat → Prop}
theorem RuS.below (h : RuS w wr va ra bs vb rb cb Q) (hb : Below wr.heap.size wr w2) : RuS w w2 va ra bs vb rb cb Q :=
 ⟨h.bl.trans (hb.mono h.bl.size), own_keep' h.oa (Kb.of_below (fun _ => False) hb) (fun _ _ x => x), h.na.keep (KeepQ.below hb), own_keep' h.ob (Kb.of_below (fun _ => False) hb) (fun _ _ x => x), h.nb.keep (Kb.of_below (fun _ => False) hb) (fun _ _ _ x => x), fun k hk => ⟨(h.lo k hk).1, Nat.lt_of_lt_of_le (h.lo k hk).2 hb.size⟩, h.xa, h.xb⟩
theorem RuS.wider (h : RuS w wr va ra bs vb rb cb Q) (n m : Nat) (hn : w.heap.size ≤ n) (hm : m ≤ wr.heap.size) (ha : ∀ g, va.ownBlock = some g → g < n) (hb : ∀ g, vb.ownBlock = some g → g < n) : RuS w wr va ra bs vb rb cb (fun k => Q k ∨ (n ≤ k ∧ k < m)) :=
 ⟨h.bl, h.oa, h.na.mono (fun _ _ x => .inl x), h.ob, h.nb.mono (fun _ _ x => .inl x), fun k hk => by
  rcases hk with hk | hk
  ·exact h.lo k hk
  ·omega, fun g hg hk => by
  rcases hk with hk | hk
  ·exact h.xa g hg hk
  ·have := ha g hg; omega, fun g hg hk => by
  rcases hk with hk | hk
  ·exact h.xb g hg hk
  ·have := hb g hg; omega⟩
theorem RuS.ne (h : RuS w wr va ra bs vb rb cb Q) (g : Nat) (ha : va.ownBlock = some g) : vb.ownBlock ≠ some g := fun hb => by
 obtain ⟨_, _, _, h1⟩ := own_ty' h.oa ha
 obtain ⟨_, _, _, h2⟩ := own_ty' h.ob hb
 rw [h1] at h2
 injection h2 with h2
 injection h2 with _ h3 _
 exact absurd h3 (by decide)
theorem nds_snoc {r : Rx} {b : Nat} {w : World} (h : NdsQ w Q ra bs) (hq : NdQ w Q r b) : NdsQ w Q (ra ++ [r]) (bs ++ [b]) := by
 refine ⟨by simp [h.1], fun i r' b' h1 h2 => ?_⟩
 rcases Nat.lt_or_ge i ra.length with hi | hi
 ·rw [List.getElem?_append_left hi] at h1
  rw [List.getElem?_append_left (by rw [← h.1]; exact hi)] at h2
  exact h.2 i r' b' h1 h2
 ·rw [List.getElem?_append_right hi] at h1
  rw [List.getElem?_append_right (by rw [← h.1]; exact hi)] at h2
  have e : i - ra.length = 0 := by
   have := (List.getElem?_eq_some_iff.1 h1).1; simp at this; omega
  rw [← h.1] at h2
  rw [e] at h1 h2
  simp at h1 h2
  subst h1; subst h2
  exact hq
theorem RuS.pushA {r : Rx} {nb g cap : Nat} {w6 : World} {o : Obj} (h : RuS w wr va ra bs vb rb cb Q) (hq : NdQ wr Q r nb) (hown : w6.ownsRow w.heap.size 68 1 (.slice (some ⟨g, 0, none⟩) (bs.length + 1) cap) (bs.length + 1) (bs.map ptr ++ [ptr nb])) (hgrow : (wr.alloc o).grownBy w6 va.ownBlock) (hat : va.ownBlock = some g ∨ g = wr.heap.size + 1) :
  RuS w w6 (.slice (some ⟨g, 0, none⟩) (bs.length + 1) cap) (ra ++ [r]) (bs ++ [nb]) vb rb cb Q := by
 have hal : Below wr.heap.size wr (wr.alloc o) := (Below.refl _ wr).alloc (Nat.le_refl _) o
 have k : Kb (fun i => some i = va.ownBlock) wr w6 := (Kb.of_below _ hal).trans (Kb.of_grown hgrow) (fun _ _ x => x)
 have hqx : ∀ i, Q i → ¬ some i = va.ownBlock := fun i hi e => h.xa i e.symm hi
 refine ⟨h.bl.trans (k.below h.bl.size (fun i hi => (own_ty' h.oa hi.symm).1)), by simpa using hown, nds_snoc (h.na.keep (KeepQ.kb k hqx)) (hq.keep (KeepQ.kb k hqx)), own_keep' h.ob k (fun g' hg' e => h.ne g' e.symm hg'), h.nb.keep k (fun i _ hi => hqx i hi), fun i hi => ⟨(h.lo i hi).1, Nat.lt_of_lt_of_le (h.lo i hi).2 k.size⟩, fun g' hg' hi => ?_, h.xb⟩
 have e : g = g' := by simpa [Value.ownBlock] using hg'
 subst e
 rcases hat with hat | hat
 ·exact h.xa g hat hi
 ·have := (h.lo g hi).2; omega
theorem RuS.pushB {r : Rx} {cs : List Value} {g cap : Nat} {w6 : World} {o : Obj} (h : RuS w wr va ra bs vb rb cb Q) (hq : RfQ Q wr r cs) (hown : w6.ownsRow w.heap.size 36 258 (.slice (some ⟨g, 0, none⟩) (rb.length + 1) cap) (rb.length + 1) (cb ++ cs)) (hgrow : (wr.alloc o).grownBy w6 vb.ownBlock) (hat : vb.ownBlock = some g ∨ g = wr.heap.size + 1) :
  RuS w w6 va ra bs (.slice (some ⟨g, 0, none⟩) (rb.length + 1) cap) (rb ++ [r]) (cb ++ cs) Q := by
 have hal : Below wr.heap.size wr (wr.alloc o) := (Below.refl _ wr).alloc (Nat.le_refl _) o
 have k : Kb (fun i => some i = vb.ownBlock) wr w6 := (Kb.of_below _ hal).trans (Kb.of_grown hgrow) (fun _ _ x => x)
 have hqx : ∀ i, Q i → ¬ some i = vb.ownBlock := fun i hi e => h.xb i e.symm hi
 refine ⟨h.bl.trans (k.below h.bl.size (fun i hi => (own_ty' h.ob hi.symm).1)), own_keep' h.oa k (fun g' hg' e => h.ne g' hg' e.symm), h.na.keep (KeepQ.kb k hqx), by simpa using hown, RfR.snoc (hq.keep k (fun i _ hi => hqx i hi)) (h.nb.keep k (fun i _ hi => hqx i hi)), fun i hi => ⟨(h.lo i hi).1, Nat.lt_of_lt_of_le (h.lo i hi).2 k.size⟩, h.xa, fun g' hg' hi => ?_⟩
 have e : g = g' := by simpa [Value.ownBlock] using hg'
 subst e
 rcases hat with hat | hat
 ·exact h.xb g hat hi
 ·have := (h.lo g hi).2; omega
theorem RuS.ablt (h : RuS w wr va ra bs vb rb cb Q) : (∀ g, va.ownBlock = some g → g < wr.heap.size) ∧ ∀ g, vb.ownBlock = some g → g < wr.heap.size := ⟨fun g hg => by obtain ⟨_, _, _, h1⟩ := own_ty' h.oa hg; exact lt_of_heap h1, fun g hg => by obtain ⟨_, _, _, h1⟩ := own_ty' h.ob hg; exact lt_of_heap h1⟩
end
def SsAt (w : World) (A : Option Addr) (ss : List ByteArray) : Prop := ∀ (i : Nat) (s : ByteArray), ss[i]? = some s → ∃ b o, A = some ⟨b, o, none⟩ ∧ w.cell? ⟨b, o + i, none⟩ = some (.string s)
theorem SsAt.below {w w' : World} {A : Option Addr} {ss : List ByteArray} (h : SsAt w A ss) (hb : Below w.heap.size w w') : SsAt w' A ss := fun i s hi => by
 obtain ⟨b, o, h1, h2⟩ := h i s hi
 exact ⟨b, o, h1, (hb.cell (p := ⟨b, o + i, none⟩) (by
  rcases Nat.lt_or_ge b w.heap.size with hl | hl
  ·exact hl
  ·have : w.heap[b]? = none := Array.getElem?_eq_none hl
   simp [World.cell?, this] at h2)).trans h2⟩
def rxs (ss : List ByteArray) : List Rx := ss.filterMap fun s => parseF s.data.toList
theorem rxs_yes {ss : List ByteArray} {k : Nat} {s : ByteArray} {r : Rx} (h : ss[k]? = some s) (hr : parseF s.data.toList = some r) : rxs (ss.take (k + 1)) = rxs (ss.take k) ++ [r] := by
 rw [List.take_add_one, h]; simp [rxs, hr]
theorem rxs_no {ss : List ByteArray} {k : Nat} {s : ByteArray} (h : ss[k]? = some s) (hr : parseF s.data.toList = none) : rxs (ss.take (k + 1)) = rxs (ss.take k) := by
 rw [List.take_add_one, h]; simp [rxs, hr]
theorem rxs_len (ss : List ByteArray) : (rxs ss).length ≤ ss.length := List.length_filterMap_le _ _
def RuTo (ss : List ByteArray) (w : World) (e : Ending) (w' : World) : Prop := ∃ (va vb : Value) (bad : Nat) (bs : List Nat) (cb : List Value) (Q : Nat → Prop), e = .returned (.tuple #[va, vb, .int .i64 bad]) ∧ RuS w w' va (rxs ss) bs vb (rxs ss) cb Q ∧ ∀ r ∈ rxs ss, r.size ≤ 400
end Go.Proofs.YtejdfpieblkapaaGreatDoor

/- Rules. -/
namespace Go.Proofs.YtejdfpieblkapaaGreatDoor
open Lib renaming hid → zh
open Go.RowKit Go.Shelf

theorem results_three {P : Program} {fn : Func} {p u v : Tmp} (h : fn.results = #[.tmp p, .tmp u, .tmp v]) (tmps : Array Value) (w : World) :
  (results fn tmps).run P w = .ok (.tuple #[tmps.getD p undef, tmps.getD u undef, tmps.getD v undef]) w := by
 simp [results, h]
set_option maxRecDepth 100000 in
set_option maxHeartbeats 8000000 in
theorem rules_law (w : World) (A : Option Addr) (n c : Nat) (ss : List ByteArray) (hl : ss.length = n) (hnc : n ≤ c) (hS : SsAt w A ss) (h6 : n ≤ 6) (h40 : ∀ s ∈ ss, s.size ≤ 40) :
  Calls Tryz.prog 12 #[.slice A n c] w (RuTo ss w) := by
 obtain ⟨POST, hPOST⟩ : ∃ POST : Ending → World → Prop, POST = RuTo ss w := ⟨_, rfl⟩
 have HPOST := zh hPOST
 rw [← hPOST]
 have HL := zh hl; have HSS := zh hS; have H40 := zh h40
 obtain ⟨i0, hi0, hz0, hz1, hz2⟩ := info_parts Tryz.info68
 have HI := zh hi0; have HZ0 := zh hz0; have HZ1 := zh hz1; have HZ2 := zh hz2
 obtain ⟨j0, hj0, hy0, hy1, hy2⟩ := info_parts Tryz.info36'
 have HJ := zh hj0; have HY0 := zh hy0; have HY1 := zh hy1; have HY2 := zh hy2
 have HYS := zh (show (RfC 0 noB (.slice none 0 0)).toArray.size = 258 by simp [noB_l])
 clear hPOST hl hS h40 hi0 hz0 hz1 hz2 hj0 hy0 hy1 hy2
 go_enter Tryz.func12, Tryz.ntmps12
 go_wp2_with fail
 have HR0 : Hid (∃ bs cb Q, RuS w w (.slice none 0 0) (rxs (ss.take 0)) bs (.slice none 0 0) (rxs (ss.take 0)) cb Q ∧ (∀ r ∈ rxs (ss.take 0), r.size ≤ 400)) := zh ⟨[], [], fun _ => False, ⟨Below.refl _ _, World.ownsRow_nil _ _ _ _, ⟨rfl, fun i r b h => by simp [rxs] at h⟩, World.ownsRow_nil _ _ _ _, rfl, fun _ h => h.elim, fun g h => by simp [Value.ownBlock] at h, fun g h => by simp [Value.ownBlock] at h⟩, fun r hr => by simp [rxs] at hr⟩
 go_loopw [5, 6, 7, 8] (fun va vb d i wr => ∃ (k bad : Nat), k ≤ n ∧ i = .int .i64 k ∧ d = .int .i64 bad ∧ bad ≤ k ∧ Hid (∃ bs cb Q, RuS w wr va (rxs (ss.take k)) bs vb (rxs (ss.take k)) cb Q ∧ (∀ r ∈ rxs (ss.take k), r.size ≤ 400))) (fun _ _ _ i _ => n - (intOf i).toNat)
 case atStart => exact ⟨0, 0, Nat.zero_le _, rfl, rfl, Nat.le_refl _, HR0⟩
 case round =>
  clear HR0
  obtain ⟨k, bad, hk, rfl, rfl, hbk, HR⟩ := hrel
  by_cases hlt : k < n
  ·have hki : (k : Int) < n := by omega
   have hk0 : (0 : Int) ≤ k := by omega
   obtain ⟨s, hs⟩ : ∃ s, ss[k]? = some s := ⟨_, List.getElem?_eq_getElem (by rw [HL.out]; exact hlt)⟩
   have hs40 := H40.out s (List.mem_of_getElem? hs)
   obtain ⟨bs, cb, Q, hR, hsz⟩ := HR.out
   obtain ⟨b, o, rfl, hcs⟩ := HSS.out.below hR.bl k s hs
   have HPA := zh (parse_any s wr (by omega))
   obtain ⟨Aa, ca, rfl, hma, hca⟩ := own_form hR.oa
   obtain ⟨Ab, cp, rfl, hmb, hcp⟩ := own_form hR.ob
   obtain ⟨m, hm⟩ : ∃ m, m = bs.length := ⟨_, rfl⟩
   have hm2 : (rxs (ss.take k)).length = m := by rw [hm, hR.na.1]
   rw [← hm] at hma
   rw [hm2] at hmb
   have hm6 : m ≤ 6 := by
    have h1 := rxs_len (ss.take k)
    rw [List.length_take] at h1
    omega
   have HS := zh hs; have HRS := zh hR; have HSZ := zh hsz; have HM := zh hm; have HM2 := zh hm2; have HSA := zh hs40
   rw [← hm, hm2]
   clear HR hs hR hsz hm hm2 hs40
   go_wp2_with fail
   refine HPA.out.mono ?_
   rintro e w2 ⟨hb2, hq⟩
   have HB2 := zh hb2
   have hcs2 : w2.cell? ⟨b, o + k, none⟩ = some (.string s) := (hb2.cell (p := ⟨b, o + k, none⟩) (by
    rcases Nat.lt_or_ge b wr.heap.size with hl | hl
    ·exact hl
    ·have : wr.heap[b]? = none := Array.getElem?_eq_none hl
     simp [World.cell?, this] at hcs)).trans hcs
   clear hcs hb2 HPA
   have HRP := zh (rparse_r s w2 (by have := HSA.out; omega))
   rcases hq with ⟨r, nb, hr, hz400, rfl, hn, hq⟩ | ⟨hr, p, ec, hne, rfl⟩
   ·have HPR := zh hr; have HZ4 := zh hz400; have HQN := zh hq
    clear hr hz400 hn hq
    go_wp2_with fail
    refine HRP.out.mono ?_
    rintro e w3 ⟨hb3, cs, bd, gr, rfl, hl1, hl2, hcase⟩
    obtain ⟨rfl, rfl, hrf⟩ : bd = -1 ∧ gr = false ∧ RfQ (fun k => w2.heap.size ≤ k) w3 r cs := by
     rcases hcase with ⟨r', e1, _, e2, e3, e4⟩ | ⟨e1, _⟩
     ·rw [HPR.out] at e1; injection e1 with e1; subst e1; exact ⟨e2, e3, e4⟩
     ·rw [HPR.out] at e1; cases e1
    have HRF := zh hrf; have HB3 := zh hb3
    have HLE := zh (And.intro hl1 hl2)
    clear hcase hrf hb3 hl1 hl2 HRP
    have HAL := zh (alloc_res w3)
    have hal : Below w3.heap.size w3 (w3.alloc (.cells Tryz.zeroCells36 36)) := (Below.refl _ w3).alloc (Nat.le_refl _) _
    have k4 : Kb (fun i => i = w3.heap.size) w3 ((w3.alloc (.cells Tryz.zeroCells36 36)).setRow w3.heap.size cs.toArray) := (Kb.of_below _ hal).trans (setRow_kb _ _ _) (fun _ _ h => h)
    have HB4 := zh (k4.below (Nat.le_refl _) (fun i hi => by omega))
    have HN4 := zh (show ((w3.alloc (.cells Tryz.zeroCells36 36)).setRow w3.heap.size cs.toArray).heap[w3.heap.size]? = some (.cells cs.toArray 36 (0, 0)) from setRow_heap _ _ _ _ 36 (0, 0) (alloc_res w3))
    clear hal k4
    go_upto_region 9 with (refine st30o rfl rfl _ _ rfl w3.heap.size cs (RfC 0 noB (.slice none 0 0)) rfl rfl HAL.out (noB_l _ _) HLE.out.1 HLE.out.2 ?_)
    rename_i KA hKA KB hKB
    have HKA := zh hKA; have HKB := zh hKB
    clear hKA hKB
    generalize (w3.alloc (.cells Tryz.zeroCells36 36)).setRow w3.heap.size cs.toArray = w4 at HB4 HN4 ⊢
    clear HAL
    have HBw : Hid (Below wr.heap.size wr w4) := zh (below_tr (below_tr HB2.out HB3.out HB2.out.size) HB4.out (Nat.le_trans HB2.out.size HB3.out.size))
    have hz3 := HB3.out.size
    have hz2 := HB2.out.size
    have hz4 := HB4.out.size
    obtain ⟨Q', hQ'⟩ : ∃ Q' : Nat → Prop, Q' = fun k => Q k ∨ (wr.heap.size ≤ k ∧ k < w3.heap.size) := ⟨_, rfl⟩
    have H4 : Hid (RuS w w4 (.slice Aa m ca) (rxs (ss.take k)) bs (.slice Ab m cp) (rxs (ss.take k)) cb Q') := by
     have h1 := HRS.out
     rw [← HM.out, HM2.out] at h1
     have h2 := (h1.below HBw.out).wider wr.heap.size w3.heap.size h1.bl.size (by omega) h1.ablt.1 h1.ablt.2
     rw [hQ']; exact zh h2
    have HQ4 : Hid (NdQ w4 Q' r nb) := by
     rw [hQ']
     exact zh ((HQN.out.mono (Q' := fun k => Q k ∨ (wr.heap.size ≤ k ∧ k < w3.heap.size)) (fun i hi hw => .inr ⟨hw, by omega⟩)).keep (KeepQ.below (below_tr HB3.out HB4.out HB3.out.size)))
    have HF4 : Hid (RfQ Q' w4 r cs) := by
     rw [hQ']
     exact zh ((HRF.out.mono (Q' := fun k => Q k ∨ (wr.heap.size ≤ k ∧ k < w3.heap.size)) (fun i hi hw => .inr ⟨by omega, hi⟩)).keep (Kb.of_below (fun _ => False) HB4.out) (fun _ _ _ x => x))
    obtain ⟨B, hB⟩ : ∃ B, B = w3.heap.size := ⟨_, rfl⟩
    have HBQ : Hid (¬ Q' B) := by
     rw [hQ', hB]
     refine zh (fun hq => ?_)
     rcases hq with hq | hq
     ·have := (HRS.out.lo _ hq).2; omega
     ·omega
    rw [← hB] at HN4 ⊢
    have hww : w.heap.size ≤ w4.heap.size := H4.out.bl.size
    clear HBw HRS HQN HRF HB2 HB3 HB4 hQ' hB hz2 hz3 hz4 hcs2
    go_wp2_with fail
    refine HKB.out _ _ ?_
    go_wp2_with fail
    refine HKA.out _ _ ?_
    clear HKA HKB
    have HOA : Hid ((w4.alloc (.cells #[ptr nb] 68)).ownsRow w.heap.size 68 1 (.slice Aa m ca) m (bs.map ptr)) := by
     have := H4.out.oa.alloc (.cells #[ptr nb] 68)
     rw [← HM.out] at this
     exact zh this
    go_wp2_with (at_builtin; refine wpList_append_lies _ rfl _ _ 24 rfl w.heap.size 68 i0 _ 1 8 Tryz.underlying24 HI.out HZ0.out HZ1.out HZ2.out rfl (by omega) (.slice Aa m ca) m (bs.map ptr) rfl HOA.out ⟨w4.heap.size, 0, none⟩ 1 1 [ptr nb] rfl rfl (World.news_of_block (cs := #[ptr nb]) (t := 68) (fr := (0, 0)) (heap_alloc_new w4 _)) (by simp [Value.oneCell']) (by omega) (by unfold maxLen; omega) (by omega) (by simp; omega) (w4.heap.size + 1) (by simp) ?_)
    intro ga cap6 w6 hown6 hgrow6 hat6 hlt6
    have hal : Below w4.heap.size w4 (w4.alloc (.cells #[ptr nb] 68)) := (Below.refl _ w4).alloc (Nat.le_refl _) _
    have k6 : Kb (fun i => some i = (Value.slice Aa m ca).ownBlock) w4 w6 := (Kb.of_below _ hal).trans (Kb.of_grown hgrow6) (fun _ _ x => x)
    have H6 : Hid (RuS w w6 (.slice (some ⟨ga, 0, none⟩) (m + 1) cap6) (rxs (ss.take k) ++ [r]) (bs ++ [nb]) (.slice Ab m cp) (rxs (ss.take k)) cb Q') := by
     have := H4.out.pushA HQ4.out (by rw [← HM.out]; exact hown6) hgrow6 hat6
     rw [← HM.out] at this
     exact zh this
    have HF6 := zh (HF4.out.keep k6 (fun i _ hq e => H4.out.xa i e.symm hq))
    have hB6 : w6.heap[B]? = some (.cells cs.toArray 36 (0, 0)) := (k6.block B (lt_of_heap HN4.out) (fun e => by
     obtain ⟨_, _, _, h1⟩ := own_ty' H4.out.oa e.symm
     rw [HN4.out] at h1
     injection h1 with h1
     injection h1 with _ h2 _
     exact absurd h2 (by decide))).trans HN4.out
    have HRA := zh (row_range hB6)
    have hww6 : w.heap.size ≤ w6.heap.size := H6.out.bl.size
    have HLN := zh (show cs.length = 1 * 258 by rw [HLE.out.1])
    clear hown6 hgrow6 hat6 hlt6 hal k6 H4 HQ4 HF4 HN4 hB6 hww
    have HOB : Hid ((w6.alloc (.cells cs.toArray 36)).ownsRow w.heap.size 36 258 (.slice Ab m cp) m cb) := by
     have := H6.out.ob.alloc (.cells cs.toArray 36)
     rw [HM2.out] at this
     exact zh this
    go_wp2_with (first | (refine ld30 rfl _ rfl B 0 cs rfl HRA.out HLE.out.1 ?_) | (refine bs1 rfl _ rfl cs rfl HLE.out.1 ?_) | (at_builtin; refine wpList_append_lies _ rfl _ _ 25 rfl w.heap.size 36 j0 _ 258 288 Tryz.underlying25 HJ.out HY0.out HY1.out HY2.out HYS.out (by omega) (.slice Ab m cp) m cb rfl HOB.out ⟨w6.heap.size, 0, none⟩ 1 1 cs rfl HLN.out (World.news_of_block (cs := cs.toArray) (t := 36) (fr := (0, 0)) (heap_alloc_new w6 _)) HLE.out.2 (by omega) (by unfold maxLen; omega) (by omega) (by simp; omega) (w6.heap.size + 1) (by simp) ?_))
    intro gb cap8 w8 hown8 hgrow8 hat8 hlt8
    have H8 : Hid (∃ bs cb Q, RuS w w8 (.slice (some ⟨ga, 0, none⟩) (m + 1) cap6) (rxs (ss.take (k + 1))) bs (.slice (some ⟨gb, 0, none⟩) (m + 1) cap8) (rxs (ss.take (k + 1))) cb Q ∧ (∀ r ∈ rxs (ss.take (k + 1)), r.size ≤ 400)) := by
     have h1 := H6.out
     have := h1.pushB HF6.out (by rw [HM2.out]; exact hown8) hgrow8 hat8
     rw [HM2.out] at this
     rw [rxs_yes HS.out HPR.out]
     exact zh ⟨_, _, _, this, fun r' hr' => by
      rcases List.mem_append.1 hr' with h | h
      ·exact HSZ.out r' h
      ·rw [List.mem_singleton.1 h]; exact HZ4.out⟩
    clear hown8 hgrow8 hat8 hlt8 H6 HF6 HRA HOA HOB
    go_wp2_with fail
    go_roundw
    case rel => exact ⟨k + 1, bad, by omega, by go_num, rfl, by omega, H8⟩
    case measure => simp [intOf]; omega
   ·have HPR := zh hr
    have HNE := zh hne
    have hne2 : ¬ ec = 0 := hne
    clear hr hne
    go_wp2_with fail
    refine HRP.out.mono ?_
    rintro e w3 ⟨hb3, cs, bd, gr, rfl, hl1, hl2, hcase⟩
    have HB3 := zh hb3
    have HLE := zh (And.intro hl1 hl2)
    clear hcase hb3 hl1 hl2 HRP
    have HAL := zh (alloc_res w3)
    have hal : Below w3.heap.size w3 (w3.alloc (.cells Tryz.zeroCells36 36)) := (Below.refl _ w3).alloc (Nat.le_refl _) _
    have k4 : Kb (fun i => i = w3.heap.size) w3 ((w3.alloc (.cells Tryz.zeroCells36 36)).setRow w3.heap.size cs.toArray) := (Kb.of_below _ hal).trans (setRow_kb _ _ _) (fun _ _ h => h)
    have HB4 := zh (k4.below (Nat.le_refl _) (fun i hi => by omega))
    clear hal k4
    go_upto_region 9 with (refine st30o rfl rfl _ _ rfl w3.heap.size cs (RfC 0 noB (.slice none 0 0)) rfl rfl HAL.out (noB_l _ _) HLE.out.1 HLE.out.2 ?_)
    rename_i KA hKA KB hKB
    have HKA := zh hKA; have HKB := zh hKB
    clear hKA hKB
    generalize (w3.alloc (.cells Tryz.zeroCells36 36)).setRow w3.heap.size cs.toArray = w4 at HB4 ⊢
    clear HAL
    have H8 : Hid (∃ bs cb Q, RuS w w4 (.slice Aa m ca) (rxs (ss.take (k + 1))) bs (.slice Ab m cp) (rxs (ss.take (k + 1))) cb Q ∧ (∀ r ∈ rxs (ss.take (k + 1)), r.size ≤ 400)) := by
     have h1 := HRS.out
     rw [← HM.out, HM2.out] at h1
     rw [rxs_no HS.out HPR.out]
     exact zh ⟨_, _, _, h1.below (below_tr (below_tr HB2.out HB3.out HB2.out.size) HB4.out (Nat.le_trans HB2.out.size HB3.out.size)), HSZ.out⟩
    clear HRS HB2 HB3 HB4 hcs2
    go_wp2_with fail
    refine HKB.out _ _ ?_
    clear HKA HKB
    go_wp2_with fail
    go_roundw
    case rel => exact ⟨k + 1, bad + 1, by omega, by go_num, by go_num, by omega, H8⟩
    case measure => simp [intOf]; omega
  ·obtain rfl : k = n := by omega
   obtain ⟨bs, cb, Q, hR, hsz⟩ := HR.out
   go_wp2_with fail
   refine bodyPost_ret (results_three rfl _ _) rfl ?_
   have hp := HPOST.out
   subst hp
   rw [List.take_of_length_le (by rw [HL.out]; exact Nat.le_refl _)] at hR hsz
   exact ⟨_, _, bad, bs, cb, Q, rfl, hR, hsz⟩
end Go.Proofs.YtejdfpieblkapaaGreatDoor

/- Own: what its calls want. -/
namespace Go.Proofs.YtejdfpieblkapaaGreatDoor
open Go.RowKit Go.Shelf

theorem tm_size : ∀ r : Rx, r.tm + 1 ≤ 2 * r.size := by
 intro r
 induction r with
 | set s => simp [Rx.tm, Rx.size]
 | empty => simp [Rx.tm, Rx.size]
 | cat a b iha ihb => simp only [Rx.tm, Rx.size] at *; omega
 | or a b iha ihb => simp only [Rx.tm, Rx.size] at *; omega
 | star a ih => simp only [Rx.tm, Rx.size] at *; omega
theorem tm_sum {rs : List Rx} (h : ∀ r ∈ rs, r.size ≤ 400) : (rs.map Rx.tm).sum ≤ 801 * rs.length := by
 induction rs with
 | nil => simp
 | cons r rs ih =>
  have h1 := tm_size r
  have h2 := h r (by simp)
  have h3 := ih (fun x hx => h x (by simp [hx]))
  simp only [List.map_cons, List.sum_cons, List.length_cons]
  omega
theorem row_at {w : World} {base n c : Nat} {A : Option Addr} {bs : List Nat} (h : w.ownsRow base 68 1 (.slice A n c) n (bs.map ptr)) : RowAt w A bs := by
 rcases h.2 with ⟨hv, hn⟩ | ⟨g, cap, cur, hv, hb, hh, r1, r2, r3, r4⟩
 ·have := h.1
  simp at this
  exact .inl (List.length_eq_zero_iff.1 (by omega))
 ·injection hv with e1 e2 e3
  refine .inr ⟨g, cur, _, e1, hh, fun j q hj => ?_⟩
  have hu : (bs.map ptr)[j]? = some (ptr q) := by rw [List.getElem?_map, hj]; rfl
  rw [← r4] at hu
  have hlt : j < n * 1 := by
   have := (List.getElem?_eq_some_iff.1 hu).1
   rw [List.length_take] at this
   omega
  rw [List.getElem?_take_of_lt hlt] at hu
  simpa using hu
set_option maxHeartbeats 1000000 in
theorem new_zero (w : World) (A : Option Addr) (c : Nat) : Calls Tryz.prog 13 #[.slice A 0 c] w fun e w' => e = .returned (.tuple #[.pointer none, .int .i64 1]) ∧ w' = w := by
 go_enter Tryz.func13, Tryz.ntmps13
 go_wp2
 go_ret2
 exact ⟨rfl, rfl⟩
theorem MsAt.le {w : World} {B mb : Nat} {rs : List Rx} (h : MsAt w B mb rs) : cntS rs ≤ 2000 := by obtain ⟨p, X, sv, rv, f, fl, ll, h1, h2, h3, h4⟩ := h; exact h4
theorem rules_ms (w : World) (B mb : Nat) (rs : List Rx) (h : MsAt w B mb rs) : Calls Tryz.prog 18 #[ptr mb] w fun e w' => e = .returned (.int .i64 (rs.length : Nat)) ∧ w' = w := by
 obtain ⟨As, Ar, A, Af, Al, Ae, cs, cr, c, cf, cl, ce, hm, _⟩ := h.cells
 exact rules_any w mb Ae _ ce (by rw [Lib.cell_of_heap hm]; rfl)
theorem len_ms (w : World) (B mb : Nat) (rs : List Rx) (h : MsAt w B mb rs) : Calls Tryz.prog 17 #[ptr mb] w fun e w' => e = .returned (.int .i64 (cntS rs : Nat)) ∧ w' = w := by
 obtain ⟨As, Ar, A, Af, Al, Ae, cs, cr, c, cf, cl, ce, hm, _⟩ := h.cells
 exact len_any w mb As _ cs (by rw [Lib.cell_of_heap hm]; rfl)
def NwTo (rs : List Rx) (w : World) (e : Ending) (w' : World) : Prop := Below w.heap.size w w' ∧ ((∃ x : Int, x ≠ 0 ∧ e = .returned (.tuple #[.pointer none, .int .i64 x])) ∨ (∃ B mb, e = .returned (.tuple #[ptr mb, .int .i64 0]) ∧ MsAt w' B mb rs ∧ rs.length ≤ 6))
end Go.Proofs.YtejdfpieblkapaaGreatDoor
