/- Carried from another seat. -/
import Derived.Test.YtejdfpieblkapaaGreatDoorM25
import Derived.OwnWalk
namespace Go.Proofs.YtejdfpieblkapaaGreatDoor
open Go.RowKit Go.Shelf

theorem Tryz.info68 : (Tryz.prog.info? 68).map (fun i => (i.zero, i.size, i.bytes)) = some (some (.pointer none), 1, 8) := by kernel_rfl
end Go.Proofs.YtejdfpieblkapaaGreatDoor

/- Carried from another seat. -/
namespace Go.Proofs.YtejdfpieblkapaaGreatDoor
open Lib renaming hid → zh
open Go.RowKit Go.Shelf


attribute [local go_sem] Oper.semAt_some

def NdQ (w : World) (Q : Nat → Prop) : Rx → Nat → Prop
 | .set s, b => NdB w (.set s) b (.slice none 0 0) ∧ Q b
 | .empty, b => NdB w .empty b (.slice none 0 0) ∧ Q b
 | .cat x y, b => ∃ g bx bY, NdB w (.cat x y) b (.slice (some ⟨g, 0, none⟩) 2 2) ∧ w.heap[g]? = some (.cells #[ptr bx, ptr bY] 68 (0, 0)) ∧ NdQ w Q x bx ∧ NdQ w Q y bY ∧ Q b ∧ Q g
 | .or x y, b => ∃ g bx bY, NdB w (.or x y) b (.slice (some ⟨g, 0, none⟩) 2 2) ∧ w.heap[g]? = some (.cells #[ptr bx, ptr bY] 68 (0, 0)) ∧ NdQ w Q x bx ∧ NdQ w Q y bY ∧ Q b ∧ Q g
 | .star x, b => ∃ g bx, NdB w (.star x) b (.slice (some ⟨g, 0, none⟩) 1 1) ∧ w.heap[g]? = some (.cells #[ptr bx] 68 (0, 0)) ∧ NdQ w Q x bx ∧ Q b ∧ Q g
theorem NdQ.nd {w : World} {Q : Nat → Prop} : ∀ {r : Rx} {b : Nat}, NdQ w Q r b → NdAt w r b
 | .set _, _, h => h.1
 | .empty, _, h => h.1
 | .cat _ _, _, ⟨g, bx, bY, h1, h2, h3, h4, _⟩ => ⟨g, bx, bY, h1, h2, h3.nd, h4.nd⟩
 | .or _ _, _, ⟨g, bx, bY, h1, h2, h3, h4, _⟩ => ⟨g, bx, bY, h1, h2, h3.nd, h4.nd⟩
 | .star _, _, ⟨g, bx, h1, h2, h3, _⟩ => ⟨g, bx, h1, h2, h3.nd⟩
theorem NdQ.mono {w : World} {Q Q' : Nat → Prop} (hq : ∀ i, i < w.heap.size → Q i → Q' i) : ∀ {r : Rx} {b : Nat}, NdQ w Q r b → NdQ w Q' r b
 | .set _s, b, ⟨h, hb⟩ => ⟨h, hq b (lt_of_heap (show w.heap[b]? = _ from h)) hb⟩
 | .empty, b, ⟨h, hb⟩ => ⟨h, hq b (lt_of_heap (show w.heap[b]? = _ from h)) hb⟩
 | .cat _ _, b, ⟨g, bx, bY, h1, h2, h3, h4, h5, h6⟩ => ⟨g, bx, bY, h1, h2, h3.mono hq, h4.mono hq, hq b (lt_of_heap (show w.heap[b]? = _ from h1)) h5, hq g (lt_of_heap h2) h6⟩
 | .or _ _, b, ⟨g, bx, bY, h1, h2, h3, h4, h5, h6⟩ => ⟨g, bx, bY, h1, h2, h3.mono hq, h4.mono hq, hq b (lt_of_heap (show w.heap[b]? = _ from h1)) h5, hq g (lt_of_heap h2) h6⟩
 | .star _, b, ⟨g, bx, h1, h2, h3, h5, h6⟩ => ⟨g, bx, h1, h2, h3.mono hq, hq b (lt_of_heap (show w.heap[b]? = _ from h1)) h5, hq g (lt_of_heap h2) h6⟩
def KeepQ (Q : Nat → Prop) (w w' : World) : Prop := ∀ (k : Nat) (cs : Array Value) (t : TypeId) (fz : Nat × Nat), Q k → w.heap[k]? = some (Obj.cells cs t fz) → w'.heap[k]? = some (Obj.cells cs t fz)
theorem NdQ.keep {w w' : World} {Q : Nat → Prop} (hk : KeepQ Q w w') : ∀ {r : Rx} {b : Nat}, NdQ w Q r b → NdQ w' Q r b
 | .set _, _b, ⟨h, hb⟩ => ⟨hk _ _ _ _ hb h, hb⟩
 | .empty, _b, ⟨h, hb⟩ => ⟨hk _ _ _ _ hb h, hb⟩
 | .cat _ _, _b, ⟨g, bx, bY, h1, h2, h3, h4, h5, h6⟩ => ⟨g, bx, bY, hk _ _ _ _ h5 h1, hk _ _ _ _ h6 h2, h3.keep hk, h4.keep hk, h5, h6⟩
 | .or _ _, _b, ⟨g, bx, bY, h1, h2, h3, h4, h5, h6⟩ => ⟨g, bx, bY, hk _ _ _ _ h5 h1, hk _ _ _ _ h6 h2, h3.keep hk, h4.keep hk, h5, h6⟩
 | .star _, _b, ⟨g, bx, h1, h2, h3, h5, h6⟩ => ⟨g, bx, hk _ _ _ _ h5 h1, hk _ _ _ _ h6 h2, h3.keep hk, h5, h6⟩
theorem KeepQ.below {Q : Nat → Prop} {w w' : World} (h : Below w.heap.size w w') : KeepQ Q w w' := fun k _ _ _ _ hk => (h.block k (lt_of_heap hk)).trans hk
theorem KeepQ.kb {Q ex : Nat → Prop} {w w' : World} (h : Kb ex w w') (hx : ∀ i, Q i → ¬ ex i) : KeepQ Q w w' := fun k _ _ _ hq hk => (h.block k (lt_of_heap hk) (hx k hq)).trans hk
theorem KeepO.q {Q : Nat → Prop} {B : Nat} {w w' : World} (h : KeepO B w w') (hq : ∀ i, Q i → i ≠ B) : KeepQ Q w w' := fun k cs t fz hk hh => h k cs t fz (hq k hk) hh
def NdsQ (w : World) (Q : Nat → Prop) (rs : List Rx) (bs : List Nat) : Prop := rs.length = bs.length ∧ ∀ (i : Nat) (r : Rx) (b : Nat), rs[i]? = some r → bs[i]? = some b → NdQ w Q r b
theorem NdsQ.keep {w w' : World} {Q : Nat → Prop} {rs : List Rx} {bs : List Nat} (h : NdsQ w Q rs bs) (hk : KeepQ Q w w') : NdsQ w' Q rs bs := ⟨h.1, fun i r b h1 h2 => (h.2 i r b h1 h2).keep hk⟩
theorem NdsQ.mono {w : World} {Q Q' : Nat → Prop} {rs : List Rx} {bs : List Nat} (h : NdsQ w Q rs bs) (hq : ∀ i, i < w.heap.size → Q i → Q' i) : NdsQ w Q' rs bs := ⟨h.1, fun i r b h1 h2 => (h.2 i r b h1 h2).mono hq⟩
theorem NdsQ.nds {w : World} {Q : Nat → Prop} {rs : List Rx} {bs : List Nat} (h : NdsQ w Q rs bs) : NdsAt w rs bs := ⟨h.1, fun i r b h1 h2 => (h.2 i r b h1 h2).nd⟩

def NewQ (Q : Nat → Prop) (r : Rx) (w : World) (e : Ending) (w' : World) : Prop := ∃ nb, e = .returned (ptr nb) ∧ NdQ w' (fun i => Q i ∨ w.heap.size ≤ i) r nb ∧ Below w.heap.size w w'
theorem NewQ.wider {Q : Nat → Prop} {r : Rx} {w w1 : World} {e : Ending} {w' : World} (h : NewQ (fun i => Q i ∨ w.heap.size ≤ i) r w1 e w') (hb : Below w.heap.size w w1) : NewQ Q r w e w' := by
 obtain ⟨nb, h1, h2, h3⟩ := h
 have := hb.size
 exact ⟨nb, h1, h2.mono (fun i _ hi => by rcases hi with (hi | hi) | hi <;> first | exact .inl hi | exact .inr (by omega)), below_tr hb h3 hb.size⟩
theorem empty_q (Q : Nat → Prop) (w : World) : Calls Tryz.prog 153 #[] w (NewQ Q .empty w) := by
 go_enter Tryz.func153, Tryz.ntmps153
 go_wp2
 go_ret
 exact ⟨w.heap.size, rfl, ⟨heap_alloc_new w _, .inr (Nat.le_refl _)⟩, (Below.refl _ w).alloc (Nat.le_refl _) _⟩
set_option maxHeartbeats 1000000 in
theorem set_q (Q : Nat → Prop) (s : Ws) (w : World) : Calls Tryz.prog 137 #[wsV s] w (NewQ Q (.set s) w) := by
 go_enter Tryz.func137, Tryz.ntmps137
 go_wp2
 go_ret
 refine ⟨w.heap.size + 1, rfl, ⟨?_, .inr (by omega)⟩, ((Below.refl _ w).alloc (Nat.le_refl _) _).alloc (by simp) _⟩
 have := heap_alloc_new (w.alloc (.cells #[.int .u64 s.a, .int .u64 s.b, .int .u64 s.c, .int .u64 s.d] 100)) (.cells #[.int .i64 0, .int .u64 s.a, .int .u64 s.b, .int .u64 s.c, .int .u64 s.d, .slice none 0 0, .int .i64 1, .bool false] 128)
 rw [show (w.alloc (.cells #[.int .u64 s.a, .int .u64 s.b, .int .u64 s.c, .int .u64 s.d] 100)).heap.size = w.heap.size + 1 by simp] at this
 exact this
theorem made_one' (x : Rx) (bx g : Nat) (w : World) (hg : w.heap[g]? = some (.cells #[ptr bx] 68 (0, 0))) (hx : NdAt w x bx) (hs : x.size ≤ 1000000000) :
  Calls Tryz.prog 142 #[.int .i64 4, .bool true, .slice (some ⟨g, 0, none⟩) 1 1] w fun e w' => e = .returned (ptr w.heap.size) ∧ NdB w' (.star x) w.heap.size (.slice (some ⟨g, 0, none⟩) 1 1) ∧ Below w.heap.size w w' := by
 obtain ⟨sx, _, _⟩ := nd_size hx
 refine (made_any 4 true g 1 (fun _ => bx) (fun _ => x.size) w (by omega) ?_ ?_ ?_).mono ?_
 ·intro k hk
  obtain rfl : k = 0 := by omega
  rw [Lib.cell_of_heap hg]; rfl
 ·intro k hk
  exact sx
 ·intro k hk
  exact hs
 ·rintro e w' ⟨rfl, hb, hh⟩
  refine ⟨rfl, ?_, hb⟩
  have hsum : ((List.range 1).map (fun _ => x.size)).sum = x.size := by simp [List.range_succ]
  rw [hsum] at hh
  unfold NdB
  rw [hh]
  simp [Rx.kind, Rx.ws, Rx.size, Rx.nul]
set_option maxHeartbeats 1000000 in
theorem star_q (Q : Nat → Prop) (x : Rx) (bx : Nat) (w : World) (hx : NdQ w Q x bx) (hs : x.size ≤ 1000000000) : Calls Tryz.prog 152 #[ptr bx] w (NewQ Q (.star x) w) := by
 have hb : Below w.heap.size w (w.alloc (.cells #[ptr bx] 68)) := (Below.refl _ w).alloc (Nat.le_refl _) _
 have hg := heap_alloc_new w (.cells #[ptr bx] 68)
 have HM := zh (made_one' x bx w.heap.size _ hg (hx.nd.keep (KN.of_below hb)) hs)
 have HB := zh hb; have HG := zh hg; have HX := zh hx
 clear hx hb hg
 go_enter Tryz.func152, Tryz.ntmps152
 go_wp2_with fail
 refine HM.out.mono ?_
 rintro e w' ⟨rfl, h2, h3⟩
 have HN := zh (show NewQ Q (.star x) w (.returned (ptr (w.alloc (.cells #[ptr bx] 68)).heap.size)) w' from ⟨_, rfl, ⟨w.heap.size, bx, h2, (h3.block _ (lt_of_heap HG.out)).trans HG.out, (HX.out.keep (KeepQ.below (below_tr HB.out h3 HB.out.size))).mono (fun i _ hi => .inl hi), .inr (by simp), .inr (Nat.le_refl _)⟩, below_tr HB.out h3 HB.out.size⟩)
 rw [show (w.alloc (.cells #[ptr bx] 68)).heap.size = w.heap.size + 1 by simp] at HN
 clear h2 h3
 go_wp2
 go_ret
 exact HN.out
theorem nested_zero_q (Q : Nat → Prop) (jf nn c : Nat) (A : Option Addr) (r0 : Rx) (w : World) (hn : NdQ w Q r0 nn) :
  Calls Tryz.prog 140 #[.slice A 0 c, ptr nn, .func (.func jf) #[] #[]] w (NewQ Q r0 w) := by
 have hb : Below w.heap.size w (w.alloc (.cells #[.func (.func jf) #[] #[]] 194)) := (Below.refl _ w).alloc (Nat.le_refl _) _
 have HC := zh (contains_no A 0 c [] (w.alloc (.cells #[.func (.func jf) #[] #[]] 194)) (.inl rfl) rfl (by omega) (by omega))
 have HN := zh (hn.keep (KeepQ.below hb)); have HB := zh hb
 clear hn hb
 go_enter Tryz.func140, Tryz.ntmps140
 go_wp2_with fail
 refine HC.out.mono ?_
 rintro e w1 ⟨rfl, rfl⟩
 go_wp2
 go_ret
 exact ⟨nn, rfl, HN.out.mono (fun i _ hi => .inl hi), HB.out⟩

set_option maxRecDepth 100000 in
set_option maxHeartbeats 1000000 in
theorem nested_many_q (Q : Nat → Prop) (jf c m m1 : Nat) (v0 : Value) (mk : Rx → Rx → Rx) (hjf : jf = 156 ∧ mk = .cat ∨ jf = 141 ∧ mk = .or) (A : Option Addr) (bs : List Nat) (bz : Nat) (rs : List Rx) (rz : Rx) (w : World) (hrow : RowAt w A (bs ++ [bz])) (hnds : NdsQ w Q (rs ++ [rz]) (bs ++ [bz])) (hlen : bs.length = m) (hm1 : m1 = m + 1) (hc : m1 ≤ c) (_hc2 : c ≤ 9223372036854775807) (hm : m ≤ 1000) (hsz : ∀ r ∈ rs ++ [rz], r.size ≤ 100000) :
  Calls Tryz.prog 140 #[.slice A m1 c, v0, .func (.func jf) #[] #[]] w (NewQ Q (rs.foldr mk rz) w) := by
 obtain ⟨Qn, hQn⟩ : ∃ Qn : Nat → Prop, Qn = fun i => (Q i ∨ w.heap.size ≤ i) ∧ i ≠ w.heap.size + 1 := ⟨_, rfl⟩
 have hqn : ∀ i, Qn i → i ≠ w.heap.size + 1 := fun i hi => by rw [hQn] at hi; exact hi.2
 have hqo : ∀ i, i < w.heap.size → Q i → Qn i := fun i hi hq => by rw [hQn]; exact ⟨.inl hq, by omega⟩
 have hqw : ∀ i, w.heap.size + 1 < i → Qn i := fun i hi => by rw [hQn]; exact ⟨.inr (by omega), by omega⟩
 have hqe : ∀ i, Qn i → Q i ∨ w.heap.size ≤ i := fun i hi => by rw [hQn] at hi; exact hi.1
 clear hQn
 have hb : Below w.heap.size w (w.alloc (.cells #[.func (.func jf) #[] #[]] 194)) := (Below.refl _ w).alloc (Nat.le_refl _) _
 obtain ⟨g, cs, fz, rfl, hg, hcs⟩ : ∃ g cs fz, A = some ⟨g, 0, none⟩ ∧ w.heap[g]? = some (.cells cs 68 fz) ∧ ∀ (i b : Nat), (bs ++ [bz])[i]? = some b → cs[i]? = some (ptr b) := by
  rcases hrow with h | h
  ·simp at h
  ·exact h
 have hgl := lt_of_heap hg
 have hlast : (bs ++ [bz])[m]? = some bz := by rw [← hlen]; simp
 have hgc : (w.alloc (.cells #[.func (.func jf) #[] #[]] 194)).cell? ⟨g, m, none⟩ = some (ptr bz) := by
  rw [hb.cell (p := ⟨g, m, none⟩) hgl, Lib.cell_of_heap hg]; exact hcs m bz hlast
 have HC := zh (contains_no (some ⟨g, 0, none⟩) m1 c (bs ++ [bz]) (w.alloc (.cells #[.func (.func jf) #[] #[]] 194)) (.inr ⟨g, cs, fz, rfl, (hb.block g hgl).trans hg, hcs⟩) (by simp [hlen, hm1]) hc (by omega))
 have p1 : IntKind.i64.wrap ((m1 : Int) - 1) = (m : Int) := by rw [IntWalk.i64_in _ (by omega)]; omega
 have p2 : (m : Int) < (m1 : Int) := by omega
 have p3 : (0 : Int) ≤ (m : Int) := by omega
 have p4 : (m : Int) ≤ (c : Int) := by omega
 have p5 : (m1 : Int) ≠ 0 := by omega
 have p6 : m1 ≠ 0 := by omega
 have HG := zh hg; have HCS := zh hcs; have HN := zh hnds; have HL := zh hlen; have HB := zh hb; have HM1 := zh hm1; have HJ := zh hjf; have HZ := zh hsz
 clear hg hcs hnds hlen hb hm1 hjf hrow hlast hsz
 refine (callsIn_wide (n := 4)).1 ?_
 refine callsIn_of_wp_marks Tryz.func140 rfl trivial ?_ rfl
 simp only [Tryz.ntmps140, List.size_toArray, List.length_cons, List.length_nil, Nat.reduceAdd, Nat.reduceSub, Array.replicate_succ, Array.replicate_zero, List.push_toArray, List.append_toArray, List.nil_append, List.cons_append]
 refine wpIn_wide.2 ?_
 go_wp2_with fail
 refine HC.out.mono ?_
 rintro e w1 ⟨rfl, rfl⟩
 go_wp2_with fail
 have hbn0 : Below w.heap.size w ((w.alloc (.cells #[.func (.func jf) #[] #[]] 194)).alloc (.cells #[.pointer (some ⟨bz, 0, none⟩)] 68)) := HB.out.alloc (by simp) _
 have hsn : ((w.alloc (.cells #[.func (.func jf) #[] #[]] 194)).alloc (.cells #[.pointer (some ⟨bz, 0, none⟩)] 68)).heap.size = w.heap.size + 2 := by simp
 have xj : Boxed ((w.alloc (.cells #[.func (.func jf) #[] #[]] 194)).alloc (.cells #[.pointer (some ⟨bz, 0, none⟩)] 68)) w.heap.size 194 (.func (.func jf) #[] #[]) := (Boxed.new w 194 _).alloc _
 have xn : Boxed ((w.alloc (.cells #[.func (.func jf) #[] #[]] 194)).alloc (.cells #[.pointer (some ⟨bz, 0, none⟩)] 68)) (w.heap.size + 1) 68 (ptr bz) := by
  have := Boxed.new (w.alloc (.cells #[.func (.func jf) #[] #[]] 194)) 68 (.pointer (some ⟨bz, 0, none⟩))
  rwa [show (w.alloc (.cells #[.func (.func jf) #[] #[]] 194)).heap.size = w.heap.size + 1 by simp] at this
 generalize hw2 : (w.alloc (.cells #[.func (.func jf) #[] #[]] 194)).alloc (.cells #[.pointer (some ⟨bz, 0, none⟩)] 68) = w2 at hbn0 hsn xj xn ⊢
 clear hw2 hgc HC HB
 refine (bw_fn (some ⟨g, 0, none⟩) m c w2).mono ?_
 rintro e w3' ⟨rfl, rfl⟩
 have hb3 : Below w.heap.size w (w2.alloc (.cells #[.slice (some ⟨g, 0, none⟩) m c] 24)) := hbn0.alloc (by omega) _
 have xs := Boxed.new w2 24 (.slice (some ⟨g, 0, none⟩) m c)
 have hs3 : (w2.alloc (.cells #[.slice (some ⟨g, 0, none⟩) m c] 24)).heap.size = w.heap.size + 3 := by simp [hsn]
 have HXJ := zh (xj.alloc (.cells #[.slice (some ⟨g, 0, none⟩) m c] 24)); have HXN := zh (xn.alloc (.cells #[.slice (some ⟨g, 0, none⟩) m c] 24)); have HXS := zh xs; have HB3 := zh hb3
 rw [hsn] at HXS ⊢
 generalize hw3 : w2.alloc (.cells #[.slice (some ⟨g, 0, none⟩) m c] 24) = w3 at HXJ HXN HXS HB3 hs3 ⊢
 clear hw3 hbn0 hsn xj xn xs hb3
 go_wp2_with fail
 refine (wpIn_wide (n := 4)).1 ?_
 refine wpIn_rangeFunc_ownG rfl (by decide) (gf := 174) (lb := #[.pointer (some ⟨w.heap.size + 2, 0, none⟩)]) rfl trivial (enters_of Tryz.func174 (by kernel_rfl) rfl)
  (bw_stops Fence.wide (4 - 1) trivial rfl (by decide) (w.heap.size + 2) (w.heap.size + 1) m c (some ⟨g, 0, none⟩) bs rs HL.out (by have := HN.out.1; simp at this; rw [← HL.out]; exact this) (by omega) (by omega) w3 HXS.out (by omega) (.inr ⟨g, cs, fz, rfl, (HB3.out.block g hgl).trans HG.out, fun i b hi => HCS.out i b (by rw [List.getElem?_append_left (List.getElem?_eq_some_iff.1 hi).1]; exact hi)⟩) (fun a ha => by cases ha; show g ≠ _; omega)) KeepO.trans (fun W l o o' _ ho hc _ => KeepO.put _ W l o o' ho hc) (Below.refl _ _) (fun _ => rfl)
  (fun (pre : List (Yl bs rs)) W => (∃ bn, Boxed W (w.heap.size + 1) 68 (ptr bn) ∧ NdQ W Qn (foldb mk rz (pre.map (fun (x : Yl bs rs) => x.1.2.2))) bn ∧ (foldb mk rz (pre.map (fun (x : Yl bs rs) => x.1.2.2))).size ≤ (pre.length + 1) * 100001 ∧ Boxed W w.heap.size 194 (.func (.func jf) #[] #[])) ∧ Below w.heap.size w W)
  (fun _ _ _ => False)
  (OwnFrom.and (fun pre W W' row ⟨bn, h1, h2, h3, h4⟩ hg hr => ⟨bn, keep_far hg hr h1, h2.keep ((keepO_far (C := w.heap.size + 1) hg hr).q hqn), h3, keep_far hg hr h4⟩) (ownFrom_below (Nat.le_refl _) (by omega)))
  (fun _ _ _ _ _ hs _ _ => hs)
  ⟨⟨bz, HXN.out, (HN.out.2 m rz bz (by rw [← HL.out]; have := HN.out.1; simp at this; rw [← this]; simp) (by rw [← HL.out]; simp)).mono hqo |>.keep (KeepQ.below HB3.out), by have := HZ.out rz (by simp); simp [foldb]; omega, HXJ.out⟩, HB3.out⟩
  (fun x => { tmps := #[.slice (some ⟨g, 0, none⟩) m1 c, v0, .func (.func jf) #[] #[], undef, undef, .pointer (some ⟨w.heap.size, 0, none⟩), .pointer none, .pointer (some ⟨w.heap.size + 1, 0, none⟩), undef, ptr x.1.2.1, .slice (some ⟨g, 0, none⟩) m1 c, .bool false, .slice (some ⟨g, 0, none⟩) m1 c, .int .i64 m1, .bool false, undef, .slice (some ⟨g, 0, none⟩) m1 c, .slice (some ⟨g, 0, none⟩) m1 c, .int .i64 m1, .int .i64 m, .pointer (some ⟨g, m, none⟩), ptr bz, .slice (some ⟨g, 0, none⟩) m1 c, .slice (some ⟨g, 0, none⟩) m1 c, .int .i64 m1, .int .i64 m, .slice (some ⟨g, 0, none⟩) m c, .func (.func 174) #[] #[.pointer (some ⟨w.heap.size + 2, 0, none⟩)], .int .i64 x.1.1, ptr x.1.2.1, undef, undef, undef, undef, undef], defers := [] }) ?assign ?body ?done ?stop
 case assign =>
  intro l x W K hK
  gi_wp2
  exact hK
 case stop =>
  rintro D c pre W _ _ h _
  exact h.elim
 case body =>
  rintro l pre x W ⟨⟨bn, hbn, hnd, hszp, hbj⟩, hB⟩ hlt
  have c1 := hbn.cell
  have c2 := hbj.cell
  obtain ⟨⟨xi, xb, xr⟩, hxb, hxr⟩ := x
  dsimp only at hxb hxr ⊢
  have hmem : xr ∈ rs := List.mem_of_getElem? hxr
  have hxz : xr.size ≤ 100000 := HZ.out xr (by simp [hmem])
  have hxn : NdQ W Qn xr xb := (NdQ.mono hqo (HN.out.2 xi xr xb (by rw [List.getElem?_append_left (List.getElem?_eq_some_iff.1 hxr).1]; exact hxr) (by rw [List.getElem?_append_left (List.getElem?_eq_some_iff.1 hxb).1]; exact hxb))).keep (KeepQ.below hB)
  have hpl : (pre.length + 1) * 100001 ≤ 100101001 := by omega
  rcases HJ.out with ⟨rfl, rfl⟩ | ⟨rfl, rfl⟩
  ·have HCC := zh (cat1x_any xr _ xb bn W hxn.nd hnd.nd (by omega))
   have HD := zh hnd
   clear hnd
   gi_wp2_with (refine ⟨trivial, ?_⟩; gi_at_call 156; refine (CallsIn.inRound l (callsIn_wide.2 HCC.out)).mono ?_; rintro e w5 ⟨nb, g5, rfl, hnb5, hg5, hn5, hr5, hb5⟩; have x5 := (show Boxed w5 (w.heap.size + 1) 68 (ptr bn) from (hb5.block _ (lt_of_heap hbn)).trans hbn); have d5 := x5.cell; have e5 := x5.frozen)
   refine ⟨((keeps_below hb5).trans (KeepsOthers.setCell _ _ _)).from _, keepO_set hb5 _, ⟨nb, x5.set _, ?_, ?_, ?_⟩, ?_⟩
   ·rw [List.map_append, List.map_singleton, foldb_snoc]
    have hW1 : w.heap.size + 1 < W.heap.size := lt_of_heap hbn
    have hk5 : KeepO (w.heap.size + 1) w5 (w5.setCell ⟨w.heap.size + 1, 0, none⟩ (ptr nb)) := keepO_set (Below.refl _ _) _
    have hkW : KeepQ Qn W w5 := KeepQ.below hb5
    exact ⟨g5, xb, bn, hk5 _ _ _ _ (by omega) hn5, hk5 _ _ _ _ (by omega) hr5, (hxn.keep hkW).keep (hk5.q hqn), (HD.out.keep hkW).keep (hk5.q hqn), hqw _ (by omega), hqw _ (by omega)⟩
   ·rw [List.map_append, List.map_singleton, foldb_snoc, List.length_append, List.length_singleton]
    simp only [Rx.size]
    omega
   ·exact Boxed.other (show Boxed w5 w.heap.size 194 _ from (hb5.block _ (lt_of_heap hbj)).trans hbj) (by omega) _
   ·exact (hB.trans (hb5.mono hB.size)).trans ((Kb.setCell w5 ⟨w.heap.size + 1, 0, none⟩ _).below (Nat.le_trans hB.size hb5.size) (fun i hi => by rw [hi]; show w.heap.size ≤ w.heap.size + 1; omega))
  ·have HCC := zh (or1x_any xr _ xb bn W hxn.nd hnd.nd (by omega))
   have HD := zh hnd
   clear hnd
   gi_wp2_with (refine ⟨trivial, ?_⟩; gi_at_call 141; refine (CallsIn.inRound l (callsIn_wide.2 HCC.out)).mono ?_; rintro e w5 ⟨nb, g5, rfl, hnb5, hg5, hn5, hr5, hb5⟩; have x5 := (show Boxed w5 (w.heap.size + 1) 68 (ptr bn) from (hb5.block _ (lt_of_heap hbn)).trans hbn); have d5 := x5.cell; have e5 := x5.frozen)
   refine ⟨((keeps_below hb5).trans (KeepsOthers.setCell _ _ _)).from _, keepO_set hb5 _, ⟨nb, x5.set _, ?_, ?_, ?_⟩, ?_⟩
   ·rw [List.map_append, List.map_singleton, foldb_snoc]
    have hW1 : w.heap.size + 1 < W.heap.size := lt_of_heap hbn
    have hk5 : KeepO (w.heap.size + 1) w5 (w5.setCell ⟨w.heap.size + 1, 0, none⟩ (ptr nb)) := keepO_set (Below.refl _ _) _
    have hkW : KeepQ Qn W w5 := KeepQ.below hb5
    exact ⟨g5, xb, bn, hk5 _ _ _ _ (by omega) hn5, hk5 _ _ _ _ (by omega) hr5, (hxn.keep hkW).keep (hk5.q hqn), (HD.out.keep hkW).keep (hk5.q hqn), hqw _ (by omega), hqw _ (by omega)⟩
   ·rw [List.map_append, List.map_singleton, foldb_snoc, List.length_append, List.length_singleton]
    simp only [Rx.size]
    omega
   ·exact Boxed.other (show Boxed w5 w.heap.size 194 _ from (hb5.block _ (lt_of_heap hbj)).trans hbj) (by omega) _
   ·exact (hB.trans (hb5.mono hB.size)).trans ((Kb.setCell w5 ⟨w.heap.size + 1, 0, none⟩ _).below (Nat.le_trans hB.size hb5.size) (fun i hi => by rw [hi]; show w.heap.size ≤ w.heap.size + 1; omega))
 case done =>
  rintro D ys W hD hys ⟨⟨bn, hbn, hnd, _, _⟩, hB⟩ hK
  have c1 := hbn.cell
  rw [hys, foldb_rev] at hnd
  have HND := zh hnd
  clear hnd
  go_wp2
  refine ⟨by simp, .inl ⟨_, _, rfl, run_takeDeferred hK, ?_⟩⟩
  have hg := grownBy_putObj' W D (.deferred none)
  have hr : ∀ r, some D = some r → w.heap.size ≤ r ∧ ∃ o : Obj, W.heap[r]? = some o ∧ o.isCells = false := fun r e => by
   injection e with e
   subst e
   exact ⟨by omega, _, hK, rfl⟩
  exact ⟨_, results_tmp rfl _ _ _, bn, rfl, (HND.out.keep ((keepO_far (C := w.heap.size + 1) hg hr).q hqn)).mono (fun i _ hi => hqe i hi), hB.trans (belowK_b (w := w) (Nat.le_refl _) W D _ _ (by omega) hK rfl rfl)⟩

theorem nested_q (Q : Nat → Prop) (jf c m nn : Nat) (mk : Rx → Rx → Rx) (hjf : jf = 156 ∧ mk = .cat ∨ jf = 141 ∧ mk = .or) (A : Option Addr) (bs : List Nat) (rs : List Rx) (r0 : Rx) (w : World) (hrow : RowAt w A bs) (hnds : NdsQ w Q rs bs) (hlen : bs.length = m) (hc : m ≤ c) (hc2 : c ≤ 9223372036854775807) (hm : m ≤ 1000) (hsz : ∀ r ∈ rs, r.size ≤ 100000) (hn : NdQ w Q r0 nn) :
  Calls Tryz.prog 140 #[.slice A m c, ptr nn, .func (.func jf) #[] #[]] w (NewQ Q (nest mk r0 rs) w) := by
 rcases List.eq_nil_or_concat bs with rfl | ⟨bs, bz, rfl⟩
 ·have hr0 : rs = [] := List.length_eq_zero_iff.1 (by rw [hnds.1]; rfl)
  subst hr0
  obtain rfl : m = 0 := by simpa using hlen.symm
  exact nested_zero_q Q jf nn c A r0 w hn
 ·rw [List.concat_eq_append] at *
  rcases List.eq_nil_or_concat rs with rfl | ⟨rs, rz, rfl⟩
  ·have := hnds.1; simp at this
  ·rw [List.concat_eq_append] at *
   rw [nest_snoc]
   exact nested_many_q Q jf c bs.length m (ptr nn) mk hjf A bs bz rs rz w hrow hnds rfl (by simpa using hlen.symm) hc hc2 (by simp at hlen; omega) hsz

set_option maxHeartbeats 1000000 in
theorem cat_q (Q : Nat → Prop) (c m : Nat) (A : Option Addr) (bs : List Nat) (rs : List Rx) (w : World) (hrow : RowAt w A bs) (hnds : NdsQ w Q rs bs) (hlen : bs.length = m) (hc : m ≤ c) (hc2 : c ≤ 9223372036854775807) (hm : m ≤ 1000) (hsz : ∀ r ∈ rs, r.size ≤ 100000) :
  Calls Tryz.prog 139 #[.slice A m c] w (NewQ Q (nest .cat .empty rs) w) := by
 have HR := zh hrow; have HN := zh hnds; have HL := zh hlen; have HZ := zh hsz
 clear hrow hnds hlen hsz
 go_enter Tryz.func139, Tryz.ntmps139
 go_wp2_with fail
 refine (empty_q Q w).mono ?_
 rintro e w1 ⟨nb, rfl, h2, h3⟩
 have HC := zh (nested_q (fun i => Q i ∨ w.heap.size ≤ i) 156 c m nb .cat (.inl ⟨rfl, rfl⟩) A bs rs .empty w1 (HR.out.keep h3) ((HN.out.keep (KeepQ.below h3)).mono (fun i _ hi => .inl hi)) HL.out hc hc2 hm HZ.out h2)
 have HB := zh h3
 clear h2 h3
 go_wp2_with fail
 refine HC.out.mono ?_
 rintro e w2 ⟨nb2, rfl, h2, h3⟩
 have HF := zh (show NewQ Q (nest .cat .empty rs) w (.returned (ptr nb2)) w2 from NewQ.wider ⟨nb2, rfl, h2, h3⟩ HB.out)
 clear h2 h3
 go_wp2
 go_ret
 exact HF.out
set_option maxHeartbeats 1000000 in
theorem or_q (Q : Nat → Prop) (c m : Nat) (A : Option Addr) (bs : List Nat) (rs : List Rx) (w : World) (hrow : RowAt w A bs) (hnds : NdsQ w Q rs bs) (hlen : bs.length = m) (hc : m ≤ c) (hc2 : c ≤ 9223372036854775807) (hm : m ≤ 1000) (hsz : ∀ r ∈ rs, r.size ≤ 100000) :
  Calls Tryz.prog 116 #[.slice A m c] w (NewQ Q (nest .or Rx.none' rs) w) := by
 have HR := zh hrow; have HN := zh hnds; have HL := zh hlen; have HZ := zh hsz
 clear hrow hnds hlen hsz
 go_enter Tryz.func116, Tryz.ntmps116
 go_wp2_with fail
 refine (set_q Q ⟨0, 0, 0, 0⟩ w).mono ?_
 rintro e w1 ⟨nb, rfl, h2, h3⟩
 have HC := zh (nested_q (fun i => Q i ∨ w.heap.size ≤ i) 141 c m nb .or (.inr ⟨rfl, rfl⟩) A bs rs Rx.none' w1 (HR.out.keep h3) ((HN.out.keep (KeepQ.below h3)).mono (fun i _ hi => .inl hi)) HL.out hc hc2 hm HZ.out h2)
 have HB := zh h3
 clear h2 h3
 go_wp2_with fail
 refine HC.out.mono ?_
 rintro e w2 ⟨nb2, rfl, h2, h3⟩
 have HF := zh (show NewQ Q (nest .or Rx.none' rs) w (.returned (ptr nb2)) w2 from NewQ.wider ⟨nb2, rfl, h2, h3⟩ HB.out)
 clear h2 h3
 go_wp2
 go_ret
 exact HF.out
theorem ndsq_two {w : World} {Q : Nat → Prop} {r t : Rx} {a b : Nat} (hr : NdQ w Q r a) (ht : NdQ w Q t b) : NdsQ w Q [r, t] [a, b] := ⟨rfl, fun i x y hx hy => by
 rcases i with _ | _ | i
 ·have e1 : r = x := by simpa using hx
  have e2 : a = y := by simpa using hy
  subst e1; subst e2; exact hr
 ·have e1 : t = x := by simpa using hx
  have e2 : b = y := by simpa using hy
  subst e1; subst e2; exact ht
 ·simp at hx⟩

set_option maxHeartbeats 1000000 in
theorem repeated_q (Q : Nat → Prop) (w : World) (r : Rx) (nb c : Nat) (hn : NdQ w Q r nb) (hsz : r.size ≤ 90000) : Calls Tryz.prog 132 #[ptr nb, .int .u8 c] w (NewQ Q (repF r c) w) := by
 by_cases h1 : c = 42
 ·subst h1
  have HS := zh (star_q Q r nb w hn (by omega))
  clear hn
  go_enter Tryz.func132, Tryz.ntmps132
  go_wp2_with fail
  refine HS.out.mono ?_
  rintro e w1 ⟨b1, rfl, h2, h3⟩
  have HF := zh (show NewQ Q (repF r 42) w (.returned (ptr b1)) w1 from ⟨b1, rfl, h2, h3⟩)
  clear h2 h3
  go_wp2
  go_ret
  exact HF.out
 ·have h1i : ((c : Nat) : Int) ≠ 42 := by omega
  by_cases h2 : c = 43
  ·subst h2
   have HS := zh (star_q Q r nb w hn (by omega))
   have HN := zh hn
   clear hn h1 h1i
   go_enter Tryz.func132, Tryz.ntmps132
   go_wp2_with fail
   refine HS.out.mono ?_
   rintro e w1 ⟨b1, rfl, h2, h3⟩
   have hb : Below w1.heap.size w1 (w1.alloc (.cells #[ptr nb, ptr b1] 68)) := (Below.refl _ w1).alloc (Nat.le_refl _) _
   have hnds := ndsq_two (((HN.out.keep (KeepQ.below h3)).keep (KeepQ.below hb)).mono (fun i _ hi => .inl hi)) (h2.keep (KeepQ.below hb))
   have HC := zh (cat_q (fun i => Q i ∨ w.heap.size ≤ i) 2 2 (some ⟨w1.heap.size, 0, none⟩) [nb, b1] [r, .star r] _ (row_two w1 nb b1) hnds rfl (by omega) (by omega) (by omega) (fun x hx => by
    rcases List.mem_cons.1 hx with rfl | hx
    ·omega
    ·rw [List.mem_singleton.1 hx]; show 1 + r.size ≤ _; omega))
   have HB := zh (below_tr h3 hb h3.size)
   clear h2 h3 hb hnds
   go_wp2_with fail
   refine HC.out.mono ?_
   rintro e w2 hn2
   obtain ⟨b2, rfl, h2, h3⟩ := hn2
   have HF := zh (show NewQ Q (repF r 43) w (.returned (ptr b2)) w2 from NewQ.wider ⟨b2, rfl, h2, h3⟩ HB.out)
   clear h2 h3
   go_wp2
   go_ret
   exact HF.out
  ·have h2i : ((c : Nat) : Int) ≠ 43 := by omega
   have hrep : repF r c = .or r .empty := by unfold repF; rw [if_neg h1, if_neg h2]
   rw [hrep]
   have HN := zh hn
   clear hn hrep
   go_enter Tryz.func132, Tryz.ntmps132
   go_wp2_with fail
   refine (empty_q Q w).mono ?_
   rintro e w1 ⟨b1, rfl, h2, h3⟩
   have hb : Below w1.heap.size w1 (w1.alloc (.cells #[ptr nb, ptr b1] 68)) := (Below.refl _ w1).alloc (Nat.le_refl _) _
   have hnds := ndsq_two (((HN.out.keep (KeepQ.below h3)).keep (KeepQ.below hb)).mono (fun i _ hi => .inl hi)) (h2.keep (KeepQ.below hb))
   have HC := zh (or_q (fun i => Q i ∨ w.heap.size ≤ i) 2 2 (some ⟨w1.heap.size, 0, none⟩) [nb, b1] [r, .empty] _ (row_two w1 nb b1) hnds rfl (by omega) (by omega) (by omega) (fun x hx => by
    rcases List.mem_cons.1 hx with rfl | hx
    ·omega
    ·rw [List.mem_singleton.1 hx]; show 1 ≤ _; omega))
   have HB := zh (below_tr h3 hb h3.size)
   clear h2 h3 hb hnds
   go_wp2_with fail
   refine HC.out.mono ?_
   rintro e w2 hn2
   obtain ⟨b2, rfl, h2, h3⟩ := hn2
   have HF := zh (show NewQ Q (.or r .empty) w (.returned (ptr b2)) w2 from NewQ.wider ⟨b2, rfl, h2, h3⟩ HB.out)
   clear h2 h3
   go_wp2
   go_ret
   exact HF.out
end Go.Proofs.YtejdfpieblkapaaGreatDoor

/- Carried from another seat. -/
namespace Go.Proofs.YtejdfpieblkapaaGreatDoor
open Go.RowKit Go.Shelf


structure Grp where
 ways : List Rx
 row : List Rx
def catR (l : List Rx) : Rx := nest .cat .empty l
def orR (l : List Rx) : Rx := nest .or Rx.none' l
def g0 : Grp := ⟨[], []⟩
def Grp.nextWay (g : Grp) : Grp := ⟨g.ways ++ [catR g.row], []⟩
def Grp.whole (g : Grp) : Rx := orR (g.ways ++ [catR g.row])
def szs (l : List Rx) : Nat := (l.map Rx.size).sum
def Grp.size (g : Grp) : Nat := szs g.ways + szs g.row
def gsz (l : List Grp) : Nat := (l.map Grp.size).sum
def Grp.put (g : Grp) (r : Rx) : Grp := ⟨g.ways, g.row ++ [r]⟩
def Grp.rep (g : Grp) (c : Nat) : Grp := ⟨g.ways, g.row.dropLast ++ [repF (g.row.getLast?.getD .empty) c]⟩
def OUT : ByteArray := ⟨#[124, 42, 43, 63, 40, 41, 91, 93, 46, 92]⟩
def REP : ByteArray := ⟨#[42, 43, 63]⟩
theorem out0 : inS OUT 0 = false := by decide
theorem rep0 : inS REP 0 = false := by decide
def atomF (L : List UInt8) (i : Nat) : Option (Ws × Nat) :=
 if nx L i = 46 then some ((btw 10 1).inv 4, i + 1) else if nx L i = 91 then classF L (i + 1) else (letF OUT L i).map fun x => (btw x.1 1, x.2)
def heavy (lo : List Grp) (g : Grp) : Bool := decide (400 < gsz (lo ++ [g]) ∨ 50 < lo.length)
def stepF (L : List UInt8) (i : Nat) (lo : List Grp) (g : Grp) (f : Bool) : Option (Nat × List Grp × Grp × Bool) :=
 if nx L i = 124 then some (i + 1, lo, g.nextWay, false)
 else if nx L i = 40 then some (i + 1, lo ++ [g], g0, false)
 else if nx L i = 41 ∧ lo ≠ [] then some (i + 1, lo.dropLast, (lo.getLast?.getD g0).put g.whole, true)
 else if f = true ∧ inS REP (nx L i) = true then some (i + 1, lo, g.rep (nx L i), f)
 else (atomF L i).map fun x => (x.2, lo, g.put (.set x.1), true)
def finF (lo : List Grp) (g : Grp) : Option Rx := if lo = [] then (if g.whole.size ≤ 400 then some g.whole else none) else none
instance (lo : List Grp) : Decidable (lo = []) := match lo with
 | [] => .isTrue rfl
 | _ :: _ => .isFalse (by simp)
def runF (L : List UInt8) : Nat → Nat → List Grp → Grp → Bool → Option Rx
 | 0, _, _, _, _ => none
 | k + 1, i, lo, g, f => if i < L.length then
   (match stepF L i lo g f with
   | none => none
   | some (j, lo', g', f') => if heavy lo' g' = true then none else runF L k j lo' g' f')
  else finF lo g
def parseF (L : List UInt8) : Option Rx := runF L (L.length + 1) 0 [] g0 false

theorem classP_ok {s : ByteArray} {k i j : Nat} {t u : Ws} (h : classP s.data.toList k t i = some (u, j)) (hi : i ≤ s.size) (ht : t.Ok) : i < j ∧ j ≤ s.size ∧ u.Ok := by
 induction k generalizing i t with
 | zero => simp [classP] at h
 | succ k ih =>
  simp only [classP] at h
  split at h
  ·rename_i hc
   injection h with h; injection h with h1 h2
   subst h1
   have := nx_in hc.2 (by omega)
   exact ⟨by omega, by omega, ht⟩
  ·obtain ⟨⟨x, m⟩, hx, hh⟩ := Option.bind_eq_some_iff.1 h
   have h1 := lettersF_ok hx hi
   have h2 := ih hh h1.2.1 (ht.un h1.2.2)
   exact ⟨by omega, h2.2⟩
theorem classF_ok {s : ByteArray} {i j : Nat} {u : Ws} (h : classF s.data.toList i = some (u, j)) (hi : i ≤ s.size) : i < j ∧ j ≤ s.size ∧ u.Ok := by
 have hz : ws0.Ok := ⟨by decide, by decide, by decide, by decide⟩
 unfold classF at h
 split at h
 ·rename_i h94
  have hi2 := nx_in h94 (by omega)
  obtain ⟨⟨x, m⟩, hx, hh⟩ := Option.map_eq_some_iff.1 h
  have h1 := classP_ok hx (by omega) hz
  injection hh with e1 e2
  subst e1; subst e2
  exact ⟨by omega, h1.2.1, inv_ok⟩
 ·exact classP_ok h hi hz
theorem atomF_ok {s : ByteArray} {i j : Nat} {u : Ws} (h : atomF s.data.toList i = some (u, j)) (hi : i ≤ s.size) : i < j ∧ j ≤ s.size ∧ u.Ok := by
 unfold atomF at h
 split at h
 ·rename_i h1
  have := nx_in h1 (by omega)
  injection h with h; injection h with e1 e2
  subst e1
  exact ⟨by omega, by omega, inv_ok⟩
 ·split at h
  ·rename_i h1
   have := nx_in h1 (by omega)
   have := classF_ok h (by omega)
   exact ⟨by omega, this.2⟩
  ·obtain ⟨⟨x, m⟩, hx, hh⟩ := Option.map_eq_some_iff.1 h
   have h1 := letF_ok hx hi out0
   injection hh with e1 e2
   subst e1; subst e2
   exact ⟨h1.2.1, h1.2.2, btw_ok _ _⟩
theorem stepF_ok {s : ByteArray} {i j : Nat} {lo lo' : List Grp} {g g' : Grp} {f f' : Bool} (h : stepF s.data.toList i lo g f = some (j, lo', g', f')) (hi : i < s.size) : i < j ∧ j ≤ s.size := by
 unfold stepF at h
 split at h
 ·injection h with h; injection h with e1 e2; omega
 ·split at h
  ·injection h with h; injection h with e1 e2; omega
  ·split at h
   ·injection h with h; injection h with e1 e2; omega
   ·split at h
    ·injection h with h; injection h with e1 e2; omega
    ·obtain ⟨⟨x, m⟩, hx, hh⟩ := Option.map_eq_some_iff.1 h
     have := atomF_ok hx (by omega)
     injection hh with e1 e2
     subst e1
     exact ⟨this.1, this.2.1⟩

theorem Rx.size_pos : ∀ r : Rx, 1 ≤ r.size
 | .set _ => Nat.le_refl _
 | .empty => Nat.le_refl _
 | .cat a b => by show 1 ≤ 1 + a.size + b.size; omega
 | .or a b => by show 1 ≤ 1 + a.size + b.size; omega
 | .star a => by show 1 ≤ 1 + a.size; omega
theorem szs_nil : szs [] = 0 := rfl
theorem szs_cons (r : Rx) (l : List Rx) : szs (r :: l) = r.size + szs l := rfl
theorem szs_append (l m : List Rx) : szs (l ++ m) = szs l + szs m := by simp [szs]
theorem szs_len (l : List Rx) : l.length ≤ szs l := by
 induction l with
 | nil => simp
 | cons a l ih => have := a.size_pos; simp only [szs_cons, List.length_cons]; omega
theorem szs_mem {l : List Rx} {r : Rx} (h : r ∈ l) : r.size ≤ szs l := by
 induction l with
 | nil => cases h
 | cons a l ih =>
  rw [szs_cons]
  rcases List.mem_cons.1 h with rfl | h
  ·omega
  ·have := ih h; omega
theorem nest_size (mk : Rx → Rx → Rx) (hmk : ∀ a b, (mk a b).size = 1 + a.size + b.size) (r0 : Rx) (h0 : r0.size = 1) (l : List Rx) : (nest mk r0 l).size ≤ 2 * szs l + 1 := by
 induction l with
 | nil => show r0.size ≤ _; omega
 | cons a l ih =>
  cases l with
  | nil => show a.size ≤ _; rw [szs_cons]; omega
  | cons b l =>
   show (mk a (nest mk r0 (b :: l))).size ≤ _
   have := a.size_pos
   rw [hmk, szs_cons]; omega
theorem catR_size (l : List Rx) : (catR l).size ≤ 2 * szs l + 1 := nest_size _ (fun _ _ => rfl) _ rfl l
theorem orR_size (l : List Rx) : (orR l).size ≤ 2 * szs l + 1 := nest_size _ (fun _ _ => rfl) _ rfl l
theorem gsz_append (l m : List Grp) : gsz (l ++ m) = gsz l + gsz m := by simp [gsz]
theorem gsz_one (g : Grp) : gsz [g] = g.size := by simp [gsz]
end Go.Proofs.YtejdfpieblkapaaGreatDoor

/- Carried from another seat. -/
namespace Go.Proofs.YtejdfpieblkapaaGreatDoor
open Go.RowKit Go.Shelf


def RwAt (w : World) (ρ : Nat → Nat) (role : Nat) (v : Value) (rs : List Rx) : Prop :=
 ∃ bs : List Nat, w.ownsRow 0 68 1 v rs.length (bs.map ptr) ∧ NdsQ w (fun i => ρ i = 0) rs bs ∧ ∀ g, v.ownBlock = some g → ρ g = role
theorem own_lt {w : World} {base e size n : Nat} {v : Value} {xs : List Value} (h : w.ownsRow base e size v n xs) {g : Nat} (hg : v.ownBlock = some g) : g < w.heap.size := by
 obtain ⟨_, cs, hc⟩ := own_ty h hg
 exact lt_of_heap hc
theorem RwAt.keep {w w' : World} {ρ : Nat → Nat} {role : Nat} {v : Value} {rs : List Rx} {ex : Nat → Prop} (h : RwAt w ρ role v rs) (hk : Kb ex w w') (hx : ∀ i, i < w.heap.size → ex i → ρ i ≠ 0 ∧ ρ i ≠ role) : RwAt w' ρ role v rs := by
 obtain ⟨bs, h1, h2, h3⟩ := h
 refine ⟨bs, own_kb h1 hk (fun g hg he => (hx g (own_lt h1 hg) he).2 (h3 g hg)), ⟨h2.1, fun i r b hr hb => ?_⟩, h3⟩
 have h4 := (h2.2 i r b hr hb).mono (Q' := fun i => ρ i = 0 ∧ i < w.heap.size) (fun i hi hq => ⟨hq, hi⟩)
 have h5 := h4.keep (w' := w') (KeepQ.kb hk (fun i hi he => (hx i hi.2 he).1 hi.1))
 exact h5.mono (fun i _ hq => hq.1)
theorem RwAt.rho {w : World} {ρ ρ' : Nat → Nat} {role : Nat} {v : Value} {rs : List Rx} (h : RwAt w ρ role v rs) (hr : ∀ i, i < w.heap.size → ρ' i = ρ i) : RwAt w ρ' role v rs := by
 obtain ⟨bs, h1, h2, h3⟩ := h
 exact ⟨bs, h1, h2.mono (fun i hi hq => (hr i hi).trans hq), fun g hg => (hr g (own_lt h1 hg)).trans (h3 g hg)⟩
theorem RwAt.nil (w : World) (ρ : Nat → Nat) (role : Nat) : RwAt w ρ role (.slice none 0 0) [] := ⟨[], ⟨rfl, .inl ⟨rfl, rfl⟩⟩, ⟨rfl, fun i r b h => by simp at h⟩, fun g hg => by simp [Value.ownBlock] at hg⟩

structure PIx (h : Nat) (w0 w : World) (ρ : Nat → Nat) (P G cap : Nat) (s : ByteArray) (i : Nat) (d : Int) (n : Nat) (vs : List Value) (R : List (List Rx)) : Prop where
 ps : PsB w P s i (.slice (some ⟨G, 0, none⟩) n cap) d false
 own : w.ownsRow 0 168 2 (.slice (some ⟨G, 0, none⟩) n cap) n vs
 len : R.length = vs.length
 rows : ∀ c v rs, vs[c]? = some v → R[c]? = some rs → 3 + c ≠ h → RwAt w ρ (3 + c) v rs
 rP : ρ P = 1
 rG : ρ G = 2
 low : ∀ i, i < w0.heap.size → ρ i = 1 ∧ i ≠ P
 bel : Below w0.heap.size w0 w

section
variable {h : Nat} {w0 w w' : World} {ρ ρ' : Nat → Nat} {P G cap : Nat} {s : ByteArray} {i : Nat} {d : Int} {n : Nat} {vs : List Value} {R : List (List Rx)}
theorem PIx.lo (H : PIx h w0 w ρ P G cap s i d n vs R) {j : Nat} (hj : ρ j ≠ 1 ∨ j = P) : w0.heap.size ≤ j := by
 rcases Nat.lt_or_ge j w0.heap.size with h1 | h1
 ·obtain ⟨a, b⟩ := H.low j h1
  rcases hj with hj | hj
  ·exact absurd a hj
  ·exact absurd hj b
 ·exact h1
theorem PIx.hole (H : PIx 0 w0 w ρ P G cap s i d n vs R) : PIx h w0 w ρ P G cap s i d n vs R := ⟨H.ps, H.own, H.len, fun c v rs h1 h2 _ => H.rows c v rs h1 h2 (by omega), H.rP, H.rG, H.low, H.bel⟩
theorem PIx.lenv (H : PIx h w0 w ρ P G cap s i d n vs R) : vs.length = n * 2 := H.own.1
theorem PIx.blk (H : PIx h w0 w ρ P G cap s i d n vs R) : ∃ cur : Array Value, w.heap[G]? = some (.cells cur 168 (0, 0)) ∧ cur.toList.take (n * 2) = vs ∧ n ≤ cap ∧ cap ≤ maxLen ∧ cur.size = cap * 2 := by
 rcases H.own.2 with ⟨hv, _⟩ | ⟨g, c, cur, hv, _, hh, h1, h2, h3, h4⟩
 ·simp at hv
 ·have e1 : G = g := by injection hv with e; injection e with e; injection e
  have e2 : cap = c := by injection hv
  subst e1; subst e2
  exact ⟨cur, hh, h4, h1, h2, h3⟩
theorem PIx.cell (H : PIx h w0 w ρ P G cap s i d n vs R) {c : Nat} {v : Value} (hc : vs[c]? = some v) : w.cell? ⟨G, c, none⟩ = some v := by
 obtain ⟨cur, h1, h2, _⟩ := H.blk
 rw [Lib.cell_of_heap h1]
 rw [← h2, List.getElem?_take] at hc
 split at hc
 ·simpa using hc
 ·cases hc
theorem PIx.frozen (H : PIx h w0 w ρ P G cap s i d n vs R) (c : Nat) : w.frozen? ⟨G, c, none⟩ = false := by
 obtain ⟨cur, h1, _⟩ := H.blk
 exact Lib.frozen_of_heap h1 c
theorem PIx.ltG (H : PIx h w0 w ρ P G cap s i d n vs R) : G < w.heap.size := by obtain ⟨cur, h1, _⟩ := H.blk; exact lt_of_heap h1
theorem PIx.ltP (H : PIx h w0 w ρ P G cap s i d n vs R) : P < w.heap.size := lt_of_heap H.ps
theorem PIx.neq (H : PIx h w0 w ρ P G cap s i d n vs R) : P ≠ G := fun e => by have h1 := H.rP; rw [e, H.rG] at h1; omega
theorem PIx.rho (H : PIx h w0 w ρ P G cap s i d n vs R) (hr : ∀ i, i < w.heap.size → ρ' i = ρ i) (hl : ∀ i, i < w0.heap.size → ρ' i = 1 ∧ i ≠ P) : PIx h w0 w ρ' P G cap s i d n vs R :=
 ⟨H.ps, H.own, H.len, fun c v rs h1 h2 h3 => (H.rows c v rs h1 h2 h3).rho hr, (hr _ H.ltP).trans H.rP, (hr _ H.ltG).trans H.rG, hl, H.bel⟩
theorem PIx.kb {ex : Nat → Prop} (H : PIx h w0 w ρ P G cap s i d n vs R) (hk : Kb ex w w') (hx : ∀ i, i < w.heap.size → ex i → ρ i = h) (h3 : 3 ≤ h) : PIx h w0 w' ρ P G cap s i d n vs R := by
 have hP : ¬ ex P := fun he => by have h1 := hx P H.ltP he; rw [H.rP] at h1; omega
 have hG : ¬ ex G := fun he => by have h1 := hx G H.ltG he; rw [H.rG] at h1; omega
 refine ⟨(hk.block P H.ltP hP).trans H.ps, own_kb H.own hk (fun g hg => ?_), H.len, fun c v rs h1 h2 h3' => (H.rows c v rs h1 h2 h3').keep hk (fun i hi he => ⟨by rw [hx i hi he]; omega, by rw [hx i hi he]; omega⟩), H.rP, H.rG, H.low, H.bel.trans (hk.below H.bel.size ?_)⟩
 ·have : G = g := by simpa [Value.ownBlock] using hg
  subst this; exact hG
 ·intro i he
  rcases Nat.lt_or_ge i w.heap.size with hi | hi
  ·exact H.lo (.inl (by rw [hx i hi he]; omega))
  ·exact Nat.le_trans H.bel.size hi
theorem PIx.below (H : PIx h w0 w ρ P G cap s i d n vs R) (hb : Below w.heap.size w w') : PIx h w0 w' ρ P G cap s i d n vs R := by
 have hk := Kb.of_below (fun _ => False) hb
 refine ⟨H.ps.below hb, own_kb H.own hk (fun _ _ h => h), H.len, fun c v rs h1 h2 h3' => (H.rows c v rs h1 h2 h3').keep hk (fun i hi he => he.elim), H.rP, H.rG, H.low, below_tr H.bel hb H.bel.size⟩
theorem PIx.fill {c : Nat} {v : Value} {rs : List Rx} (H : PIx (3 + c) w0 w ρ P G cap s i d n vs R) (hv : vs[c]? = some v) (hr : RwAt w ρ (3 + c) v rs) : PIx 0 w0 w ρ P G cap s i d n vs (R.set c rs) :=
 ⟨H.ps, H.own, by rw [List.length_set]; exact H.len, fun c' v' rs' h1 h2 _ => by
  by_cases hc : c' = c
  ·subst hc
   rw [hv] at h1
   injection h1 with h1
   rw [List.getElem?_set_self' ] at h2
   obtain ⟨_, _, rfl⟩ := Option.map_eq_some_iff.1 h2
   rw [← h1]; exact hr
  ·rw [List.getElem?_set_ne (Ne.symm hc)] at h2
   exact H.rows c' v' rs' h1 h2 (by omega), H.rP, H.rG, H.low, H.bel⟩
theorem PIx.set {c : Nat} {v : Value} {rs : List Rx} (H : PIx (3 + c) w0 w ρ P G cap s i d n vs R) (hc : c < vs.length) (hr : RwAt w ρ (3 + c) v rs) : PIx 0 w0 (w.setCell ⟨G, c, none⟩ v) ρ P G cap s i d n (vs.set c v) (R.set c rs) := by
 obtain ⟨cur, h1, h2, h3, h4, h5⟩ := H.blk
 have hk := Kb.setCell w ⟨G, c, none⟩ v
 have hG := H.rG
 have hx : ∀ role, 3 ≤ role → ∀ i, i < w.heap.size → i = G → ρ i ≠ 0 ∧ ρ i ≠ role := fun role h3 i _ he => by rw [he, hG]; omega
 have hl := H.lenv
 refine ⟨(hk.block P H.ltP H.neq).trans H.ps, ⟨by rw [List.length_set]; exact hl, .inr ⟨G, cap, cur.set! c v, rfl, Nat.zero_le _, set_heap w G c cur v 168 (0, 0) h1, h3, h4, by simp [h5], ?_⟩⟩, by rw [List.length_set, List.length_set]; exact H.len, fun c' v' rs' h1 h2 _ => ?_, H.rP, H.rG, H.low, H.bel.trans (hk.below H.bel.size (fun i he => ?_))⟩
 ·rw [← h2]
  simp only [Array.set!_eq_setIfInBounds, Array.toList_setIfInBounds]
  rw [List.take_set]
 ·by_cases hcc : c' = c
  ·subst hcc
   rw [List.getElem?_set_self' ] at h1 h2
   obtain ⟨_, _, rfl⟩ := Option.map_eq_some_iff.1 h2
   obtain ⟨_, _, rfl⟩ := Option.map_eq_some_iff.1 h1
   exact hr.keep hk (hx _ (by omega))
  ·rw [List.getElem?_set_ne (Ne.symm hcc)] at h1 h2
   exact (H.rows c' v' rs' h1 h2 (by omega)).keep hk (hx _ (by omega))
 ·have he' : i = G := he
  rw [he']; exact H.lo (.inl (by rw [hG]; omega))
theorem PIx.psk {w' : World} {i' : Nat} {d' : Int} (H : PIx h w0 w ρ P G cap s i d n vs R) (hk : Kb (fun j => j = P) w w') (hp : PsB w' P s i' (.slice (some ⟨G, 0, none⟩) n cap) d' false) : PIx h w0 w' ρ P G cap s i' d' n vs R := by
 have hP := H.rP
 refine ⟨hp, own_kb H.own hk (fun g hg he => ?_), H.len, fun c v rs h1 h2 h3' => (H.rows c v rs h1 h2 h3').keep hk (fun i hi he => by rw [show i = P from he, hP]; omega), H.rP, H.rG, H.low, H.bel.trans (hk.below H.bel.size (fun i he => by rw [show i = P from he]; exact H.lo (.inr rfl)))⟩
 have : G = g := by simpa [Value.ownBlock] using hg
 exact H.neq (by rw [this]; exact he.symm)
end
def flatG (gs : List Grp) : List (List Rx) := gs.flatMap fun g => [g.ways, g.row]
theorem flatG_append (a b : List Grp) : flatG (a ++ b) = flatG a ++ flatG b := List.flatMap_append
theorem flatG_len (a : List Grp) : (flatG a).length = a.length * 2 := by
 induction a with
 | nil => rfl
 | cons x a ih => show (x.ways :: x.row :: flatG a).length = _; simp [ih]; omega
theorem flatG_ways (lo : List Grp) (g : Grp) : (flatG (lo ++ [g]))[lo.length * 2]? = some g.ways := by
 rw [flatG_append, List.getElem?_append_right (by rw [flatG_len]; exact Nat.le_refl _), flatG_len, Nat.sub_self]; rfl
theorem flatG_row (lo : List Grp) (g : Grp) : (flatG (lo ++ [g]))[lo.length * 2 + 1]? = some g.row := by
 rw [flatG_append, List.getElem?_append_right (by rw [flatG_len]; omega), flatG_len, Nat.add_sub_cancel_left]; rfl
theorem flatG_set_ways (lo : List Grp) (g : Grp) (x : List Rx) : (flatG (lo ++ [g])).set (lo.length * 2) x = flatG (lo ++ [⟨x, g.row⟩]) := by
 rw [flatG_append, flatG_append, List.set_append_right _ _ (by rw [flatG_len]; exact Nat.le_refl _), flatG_len, Nat.sub_self]; rfl
theorem flatG_set_row (lo : List Grp) (g : Grp) (x : List Rx) : (flatG (lo ++ [g])).set (lo.length * 2 + 1) x = flatG (lo ++ [⟨g.ways, x⟩]) := by
 rw [flatG_append, flatG_append, List.set_append_right _ _ (by rw [flatG_len]; omega), flatG_len, Nat.add_sub_cancel_left]; rfl

def PI (w0 w : World) (P G cap : Nat) (s : ByteArray) (i : Nat) (d : Int) (gs : List Grp) : Prop :=
 ∃ ρ vs, PIx 0 w0 w ρ P G cap s i d gs.length vs (flatG gs) ∧ ∀ i, w.heap.size ≤ i → ρ i = 0
theorem PI.below {w0 w w' : World} {P G cap : Nat} {s : ByteArray} {i : Nat} {d : Int} {gs : List Grp} (H : PI w0 w P G cap s i d gs) (hb : Below w.heap.size w w') : PI w0 w' P G cap s i d gs := by
 obtain ⟨ρ, vs, h1, h2⟩ := H
 exact ⟨ρ, vs, h1.below hb, fun i hi => h2 i (Nat.le_trans hb.size hi)⟩
theorem PI.psk {w0 w w' : World} {P G cap : Nat} {s : ByteArray} {i i' : Nat} {d d' : Int} {gs : List Grp} (H : PI w0 w P G cap s i d gs) (hk : Kb (fun j => j = P) w w') (hp : PsB w' P s i' (.slice (some ⟨G, 0, none⟩) gs.length cap) d' false) : PI w0 w' P G cap s i' d' gs := by
 obtain ⟨ρ, vs, h1, h2⟩ := H
 exact ⟨ρ, vs, h1.psk hk hp, fun i hi => h2 i (Nat.le_trans hk.size hi)⟩
theorem PI.ps {w0 w : World} {P G cap : Nat} {s : ByteArray} {i : Nat} {d : Int} {gs : List Grp} (H : PI w0 w P G cap s i d gs) : PsB w P s i (.slice (some ⟨G, 0, none⟩) gs.length cap) d false := by
 obtain ⟨ρ, vs, h1, h2⟩ := H
 exact h1.ps
theorem PI.bel {w0 w : World} {P G cap : Nat} {s : ByteArray} {i : Nat} {d : Int} {gs : List Grp} (H : PI w0 w P G cap s i d gs) : Below w0.heap.size w0 w := by
 obtain ⟨ρ, vs, h1, h2⟩ := H
 exact h1.bel
end Go.Proofs.YtejdfpieblkapaaGreatDoor

/- Carried from another seat. -/
namespace Go.Proofs.YtejdfpieblkapaaGreatDoor
open Lib renaming hid → zh
open Go.RowKit Go.Shelf


theorem ps_cells {w : World} {P : Nat} {s : ByteArray} {i : Nat} {ov : Value} {d : Int} {l : Bool} (h : PsB w P s i ov d l) : w.cell? ⟨P, 0, none⟩ = some (.string s) ∧ w.cell? ⟨P, 1, none⟩ = some (.int .i64 i) ∧ w.cell? ⟨P, 2, none⟩ = some ov ∧ w.cell? ⟨P, 3, none⟩ = some (.int .i64 d) ∧ w.cell? ⟨P, 4, none⟩ = some (.bool l) ∧ ∀ c, w.frozen? ⟨P, c, none⟩ = false := by
 unfold PsB at h
 exact ⟨by rw [Lib.cell_of_heap h]; rfl, by rw [Lib.cell_of_heap h]; rfl, by rw [Lib.cell_of_heap h]; rfl, by rw [Lib.cell_of_heap h]; rfl, by rw [Lib.cell_of_heap h]; rfl, fun c => Lib.frozen_of_heap h c⟩

set_option maxHeartbeats 1000000 in
theorem last_ps (w : World) (P G n k cap : Nat) (s : ByteArray) (i : Nat) (d : Int) (h : PsB w P s i (.slice (some ⟨G, 0, none⟩) n cap) d false) (hn : n = k + 1) (hk : k ≤ 1000) :
  Calls Tryz.prog 74 #[ptr P] w fun e w' => e = .returned (.pointer (some ⟨G, k * 2, none⟩)) ∧ Below w.heap.size w w' := by
 obtain ⟨_, _, c2, _, _, _⟩ := ps_cells h
 have p1 : IntKind.i64.wrap ((n : Int) - 1) = (k : Int) := by rw [IntWalk.i64_in _ (by omega)]; omega
 have p2 : (k : Int) < (n : Int) := by omega
 have p3 : (0 : Int) ≤ (k : Int) := by omega
 clear hn h
 go_enter Tryz.func74, Tryz.ntmps74
 go_wp2_with fail
 go_quiet (fail)
 go_wp2
 go_ret
 exact ⟨rfl, below_drewN _ _ _⟩

theorem far_cell {ex : Nat → Prop} {w w6 : World} {a : Addr} (hk : Kb ex w w6) (hl : a.block < w.heap.size) (hne : ¬ ex a.block) : w6.cell? a = w.cell? a ∧ w6.frozen? a = w.frozen? a := ⟨World.cell?_of_block (hk.block _ hl hne), World.frozen?_of_block (hk.block _ hl hne)⟩
theorem ndq_kb {w w' : World} {ρ : Nat → Nat} {ex : Nat → Prop} {r : Rx} {b : Nat} (h : NdQ w (fun i => ρ i = 0) r b) (hk : Kb ex w w') (hx : ∀ i, i < w.heap.size → ex i → ρ i ≠ 0) : NdQ w' (fun i => ρ i = 0) r b := by
 have h4 := h.mono (Q' := fun i => ρ i = 0 ∧ i < w.heap.size) (fun i hi hq => ⟨hq, hi⟩)
 have h5 := h4.keep (w' := w') (KeepQ.kb hk (fun i hi he => hx i hi.2 he hi.1))
 exact h5.mono (fun i _ hq => hq.1)
def PIn (w0 w : World) (P G cap : Nat) (s : ByteArray) (i : Nat) (d : Int) (gs : List Grp) (r : Rx) (nb : Nat) : Prop :=
 ∃ ρ vs, PIx 0 w0 w ρ P G cap s i d gs.length vs (flatG gs) ∧ (∀ i, w.heap.size ≤ i → ρ i = 0) ∧ NdQ w (fun i => ρ i = 0) r nb
theorem ndq_fresh {w w' : World} {ρ : Nat → Nat} {r : Rx} {nb : Nat} (hf : ∀ i, w.heap.size ≤ i → ρ i = 0) (h : NdQ w' (fun i => ρ i = 0 ∨ w.heap.size ≤ i) r nb) : NdQ w' (fun i => ρ i = 0) r nb := h.mono (fun i _ hi => hi.elim id (hf i))
theorem PIx.app {w0 w w6 : World} {ρ : Nat → Nat} {P G cap : Nat} {s : ByteArray} {i : Nat} {d : Int} {n : Nat} {vs : List Value} {R : List (List Rx)} (H : PIx 0 w0 w ρ P G cap s i d n vs R) (hf : ∀ i, w.heap.size ≤ i → ρ i = 0)
  {c : Nat} {b v' : Value} {rs : List Rx} {bs : List Nat} {gg : Nat} {r : Rx} {nb : Nat} (hb : vs[c]? = some b) (hbs : NdsQ w (fun i => ρ i = 0) rs bs) (hbr : ∀ g, b.ownBlock = some g → ρ g = 3 + c) (_hbo : w.ownsRow 0 68 1 b rs.length (bs.map ptr)) (hnb : NdQ w (fun i => ρ i = 0) r nb)
  (hk : Kb (fun i => some i = b.ownBlock) w w6) (ho : w6.ownsRow 0 68 1 v' (rs.length + 1) (bs.map ptr ++ [ptr nb])) (hv : v'.ownBlock = some gg) (hg : b.ownBlock = some gg ∨ w.heap.size ≤ gg) :
  ∃ ρ', PIx 0 w0 (w6.setCell ⟨G, c, none⟩ v') ρ' P G cap s i d n (vs.set c v') (R.set c (rs ++ [r])) ∧ ∀ i, (w6.setCell ⟨G, c, none⟩ v').heap.size ≤ i → ρ' i = 0 := by
 have hc : c < vs.length := (List.getElem?_eq_some_iff.1 hb).1
 obtain ⟨ρ', hρ'⟩ : ∃ ρ' : Nat → Nat, ρ' = fun i => if i = gg then 3 + c else ρ i := ⟨_, rfl⟩
 have hgg : ρ' gg = 3 + c := by rw [hρ']; simp
 have hne : ∀ i, i ≠ gg → ρ' i = ρ i := fun i hi => by rw [hρ']; simp [hi]
 have heq : ∀ i, i < w.heap.size → ρ' i = ρ i := fun i hi => by
  by_cases hi' : i = gg
  ·subst hi'
   rcases hg with hg | hg
   ·rw [hgg, hbr _ hg]
   ·omega
  ·exact hne i hi'
 clear hρ'
 have hlow : ∀ i, i < w0.heap.size → ρ' i = 1 ∧ i ≠ P := fun i hi => by
  rw [heq i (Nat.lt_of_lt_of_le hi H.bel.size)]
  exact H.low i hi
 have hx : ∀ i, i < w.heap.size → some i = b.ownBlock → ρ' i = 3 + c := fun i hi he => by rw [heq i hi]; exact hbr i he.symm
 have H2 := ((H.rho heq hlow).hole (h := 3 + c)).kb hk hx (by omega)
 have hnd : ∀ {r : Rx} {b : Nat}, NdQ w (fun i => ρ i = 0) r b → NdQ w6 (fun i => ρ' i = 0) r b := fun h => ndq_kb (h.mono (fun i hi hq => (heq i hi).trans hq)) hk (fun i hi he => by rw [hx i hi he]; omega)
 have hr : RwAt w6 ρ' (3 + c) v' (rs ++ [r]) := by
  refine ⟨bs ++ [nb], by rw [List.length_append, List.map_append]; exact ho, ⟨by simp [hbs.1], fun j x y h1 h2 => ?_⟩, fun g hg' => by rw [hv] at hg'; injection hg' with e; rw [← e]; exact hgg⟩
  have hl := hbs.1
  rcases Nat.lt_or_ge j bs.length with hj | hj
  ·rw [List.getElem?_append_left (by omega)] at h1
   rw [List.getElem?_append_left hj] at h2
   exact hnd (hbs.2 j x y h1 h2)
  ·have hj2 : j = bs.length := by
    have := (List.getElem?_eq_some_iff.1 h2).1
    simp at this; omega
   subst hj2
   rw [← hl] at h1
   have e1 : r = x := by simpa using h1
   have e2 : nb = y := by simpa using h2
   subst e1; subst e2
   exact hnd hnb
 refine ⟨ρ', H2.set hc hr, fun i hi => ?_⟩
 have hz : (w6.setCell ⟨G, c, none⟩ v').heap.size = w6.heap.size := by simp [World.setCell]
 rw [hz] at hi
 have hlt := own_lt ho hv
 have := hk.size
 rw [hne i (by omega)]
 exact hf i (by omega)

theorem PIx.last {w0 w : World} {ρ : Nat → Nat} {P G cap : Nat} {s : ByteArray} {i : Nat} {d : Int} {lo : List Grp} {g : Grp} {vs : List Value} (H : PIx 0 w0 w ρ P G cap s i d (lo ++ [g]).length vs (flatG (lo ++ [g]))) :
  ∃ a b : Value, vs[lo.length * 2]? = some a ∧ vs[lo.length * 2 + 1]? = some b ∧ RwAt w ρ (3 + lo.length * 2) a g.ways ∧ RwAt w ρ (3 + (lo.length * 2 + 1)) b g.row := by
 have hl := H.lenv
 rw [List.length_append, List.length_singleton] at hl
 obtain ⟨a, ha⟩ : ∃ a, vs[lo.length * 2]? = some a := ⟨_, List.getElem?_eq_getElem (by omega)⟩
 obtain ⟨b, hb⟩ : ∃ b, vs[lo.length * 2 + 1]? = some b := ⟨_, List.getElem?_eq_getElem (by omega)⟩
 exact ⟨a, b, ha, hb, H.rows _ _ _ ha (flatG_ways lo g) (by omega), H.rows _ _ _ hb (flatG_row lo g) (by omega)⟩

set_option maxRecDepth 100000 in
set_option maxHeartbeats 2000000 in
theorem put_any (w0 w : World) (P G cap : Nat) (s : ByteArray) (i : Nat) (d : Int) (lo : List Grp) (g : Grp) (r : Rx) (nb : Nat) (H : PIn w0 w P G cap s i d (lo ++ [g]) r nb) (hlo : lo.length ≤ 100) (hrow : g.row.length ≤ 1000) :
  Calls Tryz.prog 130 #[ptr P, ptr nb] w fun e w' => e = .returned (.tuple #[]) ∧ PI w0 w' P G cap s i d (lo ++ [g.put r]) := by
 obtain ⟨ρ, vs, H1, hf, hnb⟩ := H
 obtain ⟨a, b, ha, hb, ra, rb⟩ := H1.last
 obtain ⟨bs, hbo, hbs, hbr⟩ := rb
 obtain ⟨A, c, hbv, hcap, hcap2⟩ := own_form hbo
 subst hbv
 obtain ⟨_, _, _, _, c4, _⟩ := ps_cells H1.ps
 have hlen : (lo ++ [g]).length = lo.length + 1 := by simp
 have HL := zh (fun (w' : World) (hp : PsB w' P s i (.slice (some ⟨G, 0, none⟩) (lo ++ [g]).length cap) d false) => last_ps w' P G (lo ++ [g]).length lo.length cap s i d hp hlen (by omega))
 obtain ⟨k2, hk2⟩ : ∃ k2, k2 = lo.length * 2 := ⟨_, rfl⟩
 rw [← hk2] at HL hb hbr
 have HK2 := zh hk2
 obtain ⟨i0, hi0, hz0, hz1, hz2⟩ := info_parts Tryz.info68
 have HI := zh hi0; have HZ0 := zh hz0; have HZ1 := zh hz1; have HZ2 := zh hz2
 clear hi0 hz0 hz1 hz2
 obtain ⟨m, hm⟩ : ∃ m, m = g.row.length := ⟨_, rfl⟩
 rw [← hm] at hbo hcap hrow hb hbr
 have HM := zh hm
 have HX := zh H1; have HF := zh hf; have HN := zh hnb; have HB := zh hb; have HBO := zh hbo; have HBS := zh hbs; have HBR := zh hbr
 clear H1 hf hnb ha hb ra hbo hbs hbr hlen hk2 hm
 go_enter Tryz.func130, Tryz.ntmps130
 go_wp2_with fail
 refine (HL.out w HX.out.ps).mono ?_
 rintro e w1 ⟨rfl, hb1⟩
 have HX1 := zh (HX.out.below hb1)
 have HB1 := zh hb1
 clear hb1
 go_wp2_with fail
 refine (HL.out w1 HX1.out.ps).mono ?_
 rintro e w2 ⟨rfl, hb2⟩
 have HB2 := zh (below_tr HB1.out hb2 HB1.out.size)
 have HX2 := zh (HX1.out.below hb2)
 clear hb2
 have q1 := HX2.out.cell HB.out
 have hk2' := Kb.of_below (fun _ => False) HB2.out
 have HO2 := zh (own_kb HBO.out hk2' (fun _ _ h => h))
 have HN2 := zh (ndq_kb HN.out hk2' (fun _ _ h => h.elim))
 have HBS2 := zh (show NdsQ w2 (fun i => ρ i = 0) g.row bs from ⟨HBS.out.1, fun j x y h1 h2 => ndq_kb (HBS.out.2 j x y h1 h2) hk2' (fun _ _ h => h.elim)⟩)
 clear hk2'
 go_wp2_with (at_builtin; refine wpList_append_lies _ rfl _ _ 24 rfl 0 68 i0 _ 1 8 Tryz.underlying24 HI.out HZ0.out HZ1.out HZ2.out rfl (by omega) (.slice A m c) m _ rfl (HO2.out.alloc _) ⟨w2.heap.size, 0, none⟩ 1 1 [ptr nb] rfl rfl (World.news_of_block (cs := #[ptr nb]) (t := 68) (fr := (0, 0)) (heap_alloc_new w2 _)) (by simp [Value.oneCell']) (by omega) (by unfold maxLen; omega) (by omega) (by simp) (w2.heap.size + 1) (by simp) ?_)
 intro gg cap6 w6 hown6 hgrow6 hat6 hlt6
 have hg6 := grown_kb hgrow6
 have hne : ¬ some G = (Value.slice A m c).ownBlock := fun he => by
  have h1 := HBR.out G he.symm
  rw [HX.out.rG] at h1; omega
 obtain ⟨hfc, hff⟩ := far_cell (a := ⟨G, k2 + 1, none⟩) hg6 HX2.out.ltG hne
 rw [HX2.out.cell HB.out] at hfc
 rw [HX2.out.frozen] at hff
 obtain ⟨ρ', hp, hf'⟩ := HX2.out.app (fun i hi => HF.out i (Nat.le_trans HB2.out.size hi)) HB.out HBS2.out HBR.out (by rw [← HM.out]; exact HO2.out) HN2.out hg6 (by rw [← HM.out]; exact hown6) rfl (hat6.imp id (fun h => by omega))
 have HFin := zh (show PI w0 (w6.setCell ⟨G, k2 + 1, none⟩ (.slice (some ⟨gg, 0, none⟩) (m + 1) cap6)) P G cap s i d (lo ++ [g.put r]) from ⟨ρ', _, by
  have e1 : (flatG (lo ++ [g])).set (k2 + 1) (g.row ++ [r]) = flatG (lo ++ [g.put r]) := by rw [HK2.out]; exact flatG_set_row lo g _
  have e2 : (lo ++ [g]).length = (lo ++ [g.put r]).length := by simp
  rw [← e1, ← e2]; exact hp, hf'⟩)
 clear hown6 hgrow6 hat6 hlt6 hg6 hp hf'
 go_wp2
 go_end0
 exact ⟨rfl, HFin.out⟩
end Go.Proofs.YtejdfpieblkapaaGreatDoor

/- Carried from another seat. -/
namespace Go.Proofs.YtejdfpieblkapaaGreatDoor
open Lib renaming hid → zh
open Go.RowKit Go.Shelf


theorem own_row {w : World} {n c : Nat} {A : Option Addr} {bs : List Nat} (h : w.ownsRow 0 68 1 (.slice A n c) n (bs.map ptr)) : RowAt w A bs := by
 have hl := h.1
 rw [List.length_map] at hl
 rcases h.2 with ⟨hv, hn⟩ | ⟨g, cap, cur, hv, _, hh, _, _, _, h4⟩
 ·exact .inl (List.length_eq_zero_iff.1 (by omega))
 ·injection hv with e1 e2 e3
  refine .inr ⟨g, cur, _, e1, hh, fun i b hb => ?_⟩
  have : (bs.map ptr)[i]? = some (ptr b) := by rw [List.getElem?_map, hb]; rfl
  rw [← h4, List.getElem?_take_of_lt (by have := (List.getElem?_eq_some_iff.1 hb).1; omega)] at this
  simpa using this
structure Grp.Ok (g : Grp) : Prop where
 ways : g.ways.length ≤ 900
 row : g.row.length ≤ 900
 szw : ∀ r ∈ g.ways, r.size ≤ 50000
 szr : szs g.row ≤ 20000
theorem Grp.Ok.szr' {g : Grp} (h : g.Ok) : ∀ r ∈ g.row, r.size ≤ 100000 := fun r hr => by have := szs_mem hr; have := h.szr; omega

set_option maxRecDepth 100000 in
set_option maxHeartbeats 4000000 in
theorem nextWay_any (w0 w : World) (P G cap : Nat) (s : ByteArray) (i : Nat) (d : Int) (lo : List Grp) (g : Grp) (H : PI w0 w P G cap s i d (lo ++ [g])) (hok : g.Ok) :
  Calls Tryz.prog 115 #[.pointer (some ⟨G, lo.length * 2, none⟩)] w fun e w' => e = .returned (.tuple #[]) ∧ PI w0 w' P G cap s i d (lo ++ [g.nextWay]) := by
 obtain ⟨ρ, vs, H1, hf⟩ := H
 obtain ⟨a, b, ha, hb, ra, rb⟩ := H1.last
 obtain ⟨asl, hao, has, har⟩ := ra
 obtain ⟨bs, hbo, hbs, hbr⟩ := rb
 obtain ⟨A, ca, hav, hcapa, hcapa2⟩ := own_form hao
 obtain ⟨B, cb, hbv, hcapb, hcapb2⟩ := own_form hbo
 subst hav; subst hbv
 have h1 := hok.ways; have h2 := hok.row
 have hbd : Below w.heap.size w w.drew := (Below.refl _ w).drew
 have hkd := Kb.of_below (fun _ => False) hbd
 have hbl : g.row.length = bs.length := hbs.1
 have HC := zh (cat_q (fun i => ρ i = 0) cb g.row.length B bs g.row w.drew (own_row (own_kb hbo hkd (fun _ _ h => h))) ⟨hbs.1, fun j x y h1 h2 => ndq_kb (hbs.2 j x y h1 h2) hkd (fun _ _ h => h.elim)⟩ hbl.symm hcapb hcapb2 (by omega) hok.szr')
 obtain ⟨k2, hk2⟩ : ∃ k2, k2 = lo.length * 2 := ⟨_, rfl⟩
 rw [← hk2] at ha hb har ⊢
 have q1 := H1.cell ha
 have q2 := H1.cell hb
 obtain ⟨m, hm⟩ : ∃ m, m = g.ways.length := ⟨_, rfl⟩
 rw [← hm] at hao hcapa h1 q1 ha har
 obtain ⟨n, hn⟩ : ∃ n, n = g.row.length := ⟨_, rfl⟩
 rw [← hn] at HC q2 hcapb hb
 have HK2 := zh hk2; have HM := zh hm
 obtain ⟨i0, hi0, hz0, hz1, hz2⟩ := info_parts Tryz.info68
 have HI := zh hi0; have HZ0 := zh hz0; have HZ1 := zh hz1; have HZ2 := zh hz2
 clear hi0 hz0 hz1 hz2
 have HX := zh H1; have HF := zh hf; have HA := zh ha; have HBB := zh hb; have HAO := zh hao; have HAS := zh has; have HAR := zh har
 have HLn := zh H1.lenv
 clear H1 hf ha hb hbo hbs hbr hao has har hk2 hm hn hbl hbd hkd h2 hok
 go_enter Tryz.func115, Tryz.ntmps115
 go_wp2_with fail
 go_region_law (first | (go_simp; go_at_call 139; (with_reducible refine HC.out.mono ?_); rintro e w2 ⟨nb, rfl, y1, y2⟩; have hX2 := HX.out.below (below_tr ((Below.refl _ w).drew) y2 (Nat.le_refl _)); have hk2' := Kb.of_below (fun _ => False) (below_tr ((Below.refl _ w).drew) y2 (Nat.le_refl _)); have ho2 : w2.ownsRow 0 68 1 (.slice A m ca) m (asl.map ptr) := own_kb HAO.out hk2' (fun _ _ h => h); have e2 : w2.cell? ⟨G, k2, none⟩ = some (.slice A m ca) := hX2.cell HA.out; have e2a : ∀ o : Obj, (w2.alloc o).cell? ⟨G, k2, none⟩ = some (.slice A m ca) := fun o => (hX2.below ((Below.refl _ w2).alloc (Nat.le_refl _) o)).cell HA.out) | (refine step_append_lies _ (by rfl) _ _ _ (by rfl) 0 68 i0 _ 1 8 Tryz.underlying24 HI.out HZ0.out HZ1.out HZ2.out rfl (by omega) (.slice A m ca) m (asl.map ptr) (by rfl) (ho2.alloc _) ⟨w2.heap.size, 0, none⟩ 1 1 [ptr nb] (by rfl) (by rfl) (World.news_of_block (cs := #[ptr nb]) (t := 68) (fr := (0, 0)) (heap_alloc_new w2 _)) (by simp [Value.oneCell']) (by omega) (by unfold maxLen; omega) (by omega) (by simp) (w2.heap.size + 1) (by simp) ?_; intro gg cap6 w6 hown6 hgrow6 hat6 hlt6; have hg6 := grown_kb hgrow6; have hne : ¬ some G = (Value.slice A m ca).ownBlock := (fun he => by have h1 := HAR.out G he.symm; rw [HX.out.rG] at h1; omega); have ef6 : w6.frozen? ⟨G, k2, none⟩ = false := (far_cell (a := ⟨G, k2, none⟩) hg6 hX2.ltG hne).2.trans (hX2.frozen k2); have ec6 : w6.cell? ⟨G, k2, none⟩ = some (.slice A m ca) := (far_cell (a := ⟨G, k2, none⟩) hg6 hX2.ltG hne).1.trans e2))
 all_goals
  obtain ⟨ρ', hp, hf'⟩ := hX2.app (r := catR g.row) (fun i hi => HF.out i (Nat.le_trans hk2'.size hi)) HA.out ⟨HAS.out.1, fun j x y h1 h2 => ndq_kb (HAS.out.2 j x y h1 h2) hk2' (fun _ _ h => h.elim)⟩ HAR.out (by rw [← HM.out]; exact ho2) (ndq_fresh (w := w) HF.out y1) hg6 (by rw [← HM.out]; exact hown6) rfl (hat6.imp id (fun h => by omega))
  have hln := HLn.out
  rw [List.length_append, List.length_singleton] at hln
  have hp2 := (hp.hole (h := 3 + (k2 + 1))).set (c := k2 + 1) (v := .slice none 0 0) (rs := []) (by rw [List.length_set, HK2.out]; omega) (RwAt.nil _ _ _)
  have ef7 := hp.frozen (k2 + 1)
  have ec7 := hp.cell (c := k2 + 1) (v := .slice B n cb) (by rw [List.getElem?_set_ne (by omega)]; exact HBB.out)
  have HFin := zh (show PI w0 ((w6.setCell ⟨G, k2, none⟩ (.slice (some ⟨gg, 0, none⟩) (m + 1) cap6)).setCell ⟨G, k2 + 1, none⟩ (.slice none 0 0)) P G cap s i d (lo ++ [g.nextWay]) from ⟨ρ', _, by
   have e1 : ((flatG (lo ++ [g])).set k2 (g.ways ++ [catR g.row])).set (k2 + 1) [] = flatG (lo ++ [g.nextWay]) := by
    rw [HK2.out, flatG_set_ways, flatG_set_row]; rfl
   have e2 : (lo ++ [g]).length = (lo ++ [g.nextWay]).length := by simp
   rw [← e1, ← e2]; exact hp2, fun i hi => hf' i (by simpa [World.setCell] using hi)⟩)
  clear hown6 hgrow6 hat6 hlt6 hg6 hp hf' hX2 hk2' ho2 e2 e2a ef6 ec6 y1 y2 hp2 hln
  try go_wp2
  first | go_ret | go_end0
  exact ⟨rfl, HFin.out⟩
end Go.Proofs.YtejdfpieblkapaaGreatDoor

/- Carried from another seat. -/
namespace Go.Proofs.YtejdfpieblkapaaGreatDoor
open Lib renaming hid → zh
open Go.RowKit Go.Shelf


theorem Grp.Ok.next {g : Grp} (h : g.Ok) : (∀ r ∈ g.nextWay.ways, r.size ≤ 100000) ∧ g.nextWay.ways.length ≤ 901 := by
 refine ⟨fun r hr => ?_, by show (g.ways ++ [catR g.row]).length ≤ _; rw [List.length_append]; have := h.ways; simp; omega⟩
 rcases List.mem_append.1 hr with hr | hr
 ·have := h.szw r hr; omega
 ·rw [List.mem_singleton.1 hr]
  have := catR_size g.row
  have := h.szr
  omega

set_option maxRecDepth 100000 in
set_option maxHeartbeats 2000000 in
theorem whole_any (w0 w : World) (P G cap : Nat) (s : ByteArray) (i : Nat) (d : Int) (lo : List Grp) (g : Grp) (H : PI w0 w P G cap s i d (lo ++ [g])) (hok : g.Ok) :
  Calls Tryz.prog 75 #[.pointer (some ⟨G, lo.length * 2, none⟩)] w fun e w' => ∃ nb, e = .returned (ptr nb) ∧ PIn w0 w' P G cap s i d (lo ++ [g.nextWay]) g.whole nb := by
 have HN := zh (nextWay_any w0 w P G cap s i d lo g H hok)
 obtain ⟨k2, hk2⟩ : ∃ k2, k2 = lo.length * 2 := ⟨_, rfl⟩
 rw [← hk2] at HN ⊢
 have HK2 := zh hk2; have HOK := zh hok
 clear H hok hk2
 go_enter Tryz.func75, Tryz.ntmps75
 go_wp2_with fail
 refine HN.out.mono ?_
 rintro e w1 ⟨rfl, ρ, vs, H1, hf⟩
 obtain ⟨a, b, ha, hb, ra, rb⟩ := H1.last
 obtain ⟨asl, hao, has, har⟩ := ra
 obtain ⟨A, ca, hav, hcapa, hcapa2⟩ := own_form hao
 subst hav
 have hok := HOK.out.next
 have HC := zh (or_q (fun i => ρ i = 0) ca g.nextWay.ways.length A asl g.nextWay.ways w1 (own_row hao) has has.1.symm hcapa hcapa2 (by omega) hok.1)
 rw [← HK2.out] at ha
 have q1 := H1.cell ha
 generalize g.nextWay.ways.length = m at HC q1
 have HX := zh H1; have HF := zh hf
 clear H1 hf ha hb rb hao has har hok hcapa
 go_wp2_with fail
 refine HC.out.mono ?_
 rintro e w2 ⟨nb, rfl, y1, y2⟩
 have HFin := zh (show PIn w0 w2 P G cap s i d (lo ++ [g.nextWay]) g.whole nb from ⟨ρ, vs, HX.out.below y2, fun i hi => HF.out i (Nat.le_trans y2.size hi), ndq_fresh HF.out y1⟩)
 clear y1 y2
 go_wp2
 go_ret
 exact ⟨nb, rfl, HFin.out⟩

section
variable {w0 w w6 : World} {ρ : Nat → Nat} {P G cap : Nat} {s : ByteArray} {i : Nat} {d : Int} {n : Nat} {vs : List Value} {R : List (List Rx)}
theorem PIx.push (H : PIx 0 w0 w ρ P G cap s i d n vs R) (hf : ∀ i, w.heap.size ≤ i → ρ i = 0) {gg cap6 : Nat} (hk : Kb (fun i => i = G) w w6) (ho : w6.ownsRow 0 168 2 (.slice (some ⟨gg, 0, none⟩) (n + 1) cap6) (n + 1) (vs ++ [.slice none 0 0, .slice none 0 0])) (hg : gg = G ∨ w.heap.size ≤ gg) :
  ∃ ρ', PIx 0 w0 (w6.setCell ⟨P, 2, none⟩ (.slice (some ⟨gg, 0, none⟩) (n + 1) cap6)) ρ' P gg cap6 s i d (n + 1) (vs ++ [.slice none 0 0, .slice none 0 0]) (R ++ [[], []]) ∧ ∀ i, (w6.setCell ⟨P, 2, none⟩ (.slice (some ⟨gg, 0, none⟩) (n + 1) cap6)).heap.size ≤ i → ρ' i = 0 := by
 obtain ⟨ρ', hρ'⟩ : ∃ ρ' : Nat → Nat, ρ' = fun i => if i = gg then 2 else ρ i := ⟨_, rfl⟩
 have hgg : ρ' gg = 2 := by rw [hρ']; simp
 have hne : ∀ i, i ≠ gg → ρ' i = ρ i := fun i hi => by rw [hρ']; simp [hi]
 have heq : ∀ i, i < w.heap.size → ρ' i = ρ i := fun i hi => by
  by_cases hi' : i = gg
  ·subst hi'
   rcases hg with hg | hg
   ·rw [hgg, hg, H.rG]
   ·omega
  ·exact hne i hi'
 clear hρ'
 have hlow : ∀ i, i < w0.heap.size → ρ' i = 1 ∧ i ≠ P := fun i hi => by
  rw [heq i (Nat.lt_of_lt_of_le hi H.bel.size)]
  exact H.low i hi
 have H1 := H.rho heq hlow
 have hP1 : ρ' P = 1 := H1.rP
 have hPl := H.ltP
 have hgl : gg < w6.heap.size := own_lt ho rfl
 have hPg : P ≠ gg := fun e => by rw [e, hgg] at hP1; omega
 have hps6 : PsB w6 P s i (.slice (some ⟨G, 0, none⟩) n cap) d false := (hk.block P hPl H.neq).trans H.ps
 have hk7 := Kb.setCell w6 ⟨P, 2, none⟩ (.slice (some ⟨gg, 0, none⟩) (n + 1) cap6)
 have hx6 : ∀ i, i < w.heap.size → i = G → ρ' i = 2 := fun i _ he => by rw [he]; exact H1.rG
 have hz : (w6.setCell ⟨P, 2, none⟩ (.slice (some ⟨gg, 0, none⟩) (n + 1) cap6)).heap.size = w6.heap.size := by simp [World.setCell]
 refine ⟨ρ', ⟨?_, own_kb ho hk7 (fun g hg' he => ?_), by rw [List.length_append, List.length_append, H.len]; rfl, fun c v rs h1 h2 _ => ?_, hP1, hgg, hlow, ?_⟩, fun i hi => ?_⟩
 ·unfold PsB at hps6 ⊢
  rw [set_heap w6 P 2 _ _ _ _ hps6]; rfl
 ·have : gg = g := by simpa [Value.ownBlock] using hg'
  exact hPg (by rw [this]; exact he.symm)
 ·rcases Nat.lt_or_ge c vs.length with hc | hc
  ·rw [List.getElem?_append_left hc] at h1
   rw [List.getElem?_append_left (by rw [H.len]; exact hc)] at h2
   refine ((H1.rows c v rs h1 h2 (by omega)).keep hk (fun i hi he => ?_)).keep hk7 (fun i hi he => ?_)
   ·rw [hx6 i hi he]; omega
   ·have he' : i = P := he
    rw [he', hP1]; omega
  ·rw [List.getElem?_append_right hc] at h1
   rw [List.getElem?_append_right (by rw [H.len]; exact hc), H.len] at h2
   have hc2 : c - vs.length = 0 ∨ c - vs.length = 1 := by
    have := (List.getElem?_eq_some_iff.1 h1).1
    simp at this; omega
   rcases hc2 with hc2 | hc2 <;> rw [hc2] at h1 h2 <;> (
    have e1 : Value.slice none 0 0 = v := by simpa using h1
    have e2 : ([] : List Rx) = rs := by simpa using h2
    subst e1; subst e2
    exact RwAt.nil _ _ _)
 ·have hPw : w0.heap.size ≤ P := H.lo (.inr rfl)
  have hGw : w0.heap.size ≤ G := H.lo (.inl (by rw [H.rG]; omega))
  exact (H.bel.trans (hk.below H.bel.size (fun i he => by rw [he]; exact hGw))).trans (hk7.below (Nat.le_trans H.bel.size hk.size) (fun i he => by rw [show i = P from he]; exact hPw))
 ·rw [hz] at hi
  have := hk.size
  rw [hne i (by omega)]
  exact hf i (by omega)
theorem PIx.pop {n' : Nat} (H : PIx 0 w0 w ρ P G cap s i d n vs R) (hn : n' ≤ n) :
  PIx 0 w0 (w.setCell ⟨P, 2, none⟩ (.slice (some ⟨G, 0, none⟩) n' cap)) ρ P G cap s i d n' (vs.take (n' * 2)) (R.take (n' * 2)) := by
 obtain ⟨cur, h1, h2, h3, h4, h5⟩ := H.blk
 have hk7 := Kb.setCell w ⟨P, 2, none⟩ (.slice (some ⟨G, 0, none⟩) n' cap)
 have hP1 := H.rP
 have hl := H.lenv
 refine ⟨?_, ⟨by rw [List.length_take]; omega, .inr ⟨G, cap, cur, rfl, Nat.zero_le _, (hk7.block G H.ltG (fun e => H.neq (show G = P from e).symm)).trans h1, by omega, h4, h5, by rw [← h2, List.take_take]; congr 1; omega⟩⟩, by rw [List.length_take, List.length_take, H.len], fun c v rs h1 h2 _ => ?_, hP1, H.rG, H.low, H.bel.trans (hk7.below H.bel.size (fun i he => by rw [show i = P from he]; exact H.lo (.inr rfl)))⟩
 ·have hp := H.ps
  unfold PsB at hp ⊢
  rw [set_heap w P 2 _ _ _ _ hp]; rfl
 ·rw [List.getElem?_take] at h1 h2
  split at h1
  ·rename_i hc
   rw [if_pos hc] at h2
   refine (H.rows c v rs h1 h2 (by omega)).keep hk7 (fun i hi he => ?_)
   have he' : i = P := he
   rw [he', hP1]; omega
  ·cases h1
end
theorem flatG_take (a b : List Grp) : (flatG (a ++ b)).take (a.length * 2) = flatG a := by
 rw [flatG_append, ← flatG_len a, List.take_left]

theorem Tryz.info168 : (Tryz.prog.info? 168).map (fun i => (i.zero, i.size, i.bytes)) = some (some (.agg #[.slice none 0 0, .slice none 0 0]), 2, 48) := by kernel_rfl
set_option maxRecDepth 100000 in
set_option maxHeartbeats 2000000 in
theorem begin_pi (w0 w : World) (P G cap : Nat) (s : ByteArray) (i : Nat) (d : Nat) (gs : List Grp) (H : PI w0 w P G cap s i d gs) (hlo : gs.length ≤ 100) (hd : d ≤ 1000000) :
  Calls Tryz.prog 108 #[ptr P] w fun e w' => e = .returned (.tuple #[]) ∧ ∃ G' cap', PI w0 w' P G' cap' s i ((d + 1 : Nat) : Int) (gs ++ [g0]) := by
 obtain ⟨ρ, vs, H1, hf⟩ := H
 obtain ⟨_, _, c2, c3, c4, cf⟩ := ps_cells H1.ps
 have f3 := cf 3
 have f2 := cf 2
 obtain ⟨d1, hd1⟩ : ∃ d1 : Int, d1 = ((d + 1 : Nat) : Int) := ⟨_, rfl⟩
 have p1 : IntKind.i64.wrap ((d : Int) + 1) = d1 := by rw [hd1, IntWalk.i64_in _ (by omega)]; omega
 have hps1 : PsB (w.setCell ⟨P, 3, none⟩ (.int .i64 d1)) P s i (.slice (some ⟨G, 0, none⟩) gs.length cap) d1 false := by
  have hp := H1.ps
  unfold PsB at hp ⊢
  rw [set_heap w P 3 _ _ _ _ hp]; rfl
 have H2 := H1.psk (Kb.setCell w ⟨P, 3, none⟩ (.int .i64 d1)) hps1
 have hz2 : (w.setCell ⟨P, 3, none⟩ (.int .i64 d1)).heap.size = w.heap.size := by simp [World.setCell]
 rw [← hd1]
 have HD1 := zh hd1
 obtain ⟨i0, hi0, hz0, hz1, hz2'⟩ := info_parts Tryz.info168
 have HI := zh hi0; have HZ0 := zh hz0; have HZ1 := zh hz1; have HZ2 := zh hz2'
 clear hi0 hz0 hz1 hz2'
 have HX := zh H2; have HF := zh (show ∀ i, (w.setCell ⟨P, 3, none⟩ (.int .i64 d1)).heap.size ≤ i → ρ i = 0 by rw [hz2]; exact hf); have HPS := zh hps1
 have hPl := H1.ltP
 clear H1 H2 hf hps1 cf hd1
 go_enter Tryz.func108, Tryz.ntmps108
 go_wp2_with (at_builtin; refine wpList_append_lies _ rfl _ _ 121 rfl 0 168 i0 _ 2 48 Tryz.underlying121 HI.out HZ0.out HZ1.out HZ2.out rfl (by omega) (.slice (some ⟨G, 0, none⟩) gs.length cap) gs.length _ rfl (HX.out.own.alloc _) ⟨(w.setCell ⟨P, 3, none⟩ (.int .i64 d1)).heap.size, 0, none⟩ 1 1 [.slice none 0 0, .slice none 0 0] (by rw [hz2]; rfl) rfl (World.news_of_block (cs := #[.slice none 0 0, .slice none 0 0]) (t := 168) (fr := (0, 0)) (heap_alloc_new (w.setCell ⟨P, 3, none⟩ (.int .i64 d1)) _)) (by simp [Value.oneCell']) (by omega) (by unfold maxLen; omega) (by omega) (by simp) ((w.setCell ⟨P, 3, none⟩ (.int .i64 d1)).heap.size + 1) (by simp) ?_)
 intro gg cap6 w6 hown6 hgrow6 hat6 hlt6
 have hg6 : Kb (fun i => i = G) (w.setCell ⟨P, 3, none⟩ (.int .i64 d1)) w6 := (grown_kb hgrow6).wider (fun i hi => by
  have : some i = some G := hi
  injection this)
 obtain ⟨ρ', hp, hf'⟩ := HX.out.push HF.out hg6 hown6 (hat6.imp (fun h => by
  have : some G = some gg := h
  injection this with e
  exact e.symm) (fun h => by omega))
 obtain ⟨hfc, hff⟩ := far_cell (a := ⟨P, 2, none⟩) hg6 HX.out.ltP HX.out.neq
 rw [(ps_cells HPS.out).2.2.1] at hfc
 rw [(ps_cells HPS.out).2.2.2.2.2 2] at hff
 have HFin := zh (show PI w0 (w6.setCell ⟨P, 2, none⟩ (.slice (some ⟨gg, 0, none⟩) (gs.length + 1) cap6)) P gg cap6 s i d1 (gs ++ [g0]) from ⟨ρ', _, by
  have e1 : flatG gs ++ [[], []] = flatG (gs ++ [g0]) := by rw [flatG_append]; rfl
  have e2 : gs.length + 1 = (gs ++ [g0]).length := by simp
  rw [← e1, ← e2]; exact hp, hf'⟩)
 clear hown6 hgrow6 hat6 hlt6 hg6 hp hf'
 go_wp2
 go_end0
 exact ⟨rfl, _, _, HFin.out⟩
end Go.Proofs.YtejdfpieblkapaaGreatDoor

/- Carried from another seat. -/
namespace Go.Proofs.YtejdfpieblkapaaGreatDoor
open Lib renaming hid → zh
open Go.RowKit Go.Shelf


def PS (w0 w : World) (P : Nat) (s : ByteArray) (i : Nat) (d : Int) : Option (List Grp × Grp) → Prop
 | some (lo, g) => ∃ G cap, PI w0 w P G cap s i d (lo ++ [g])
 | none => PsB w P s i (.slice none 0 0) d true ∧ w0.heap.size ≤ P ∧ Below w0.heap.size w0 w

set_option maxHeartbeats 1000000 in
theorem alt_some (w0 w : World) (P G cap : Nat) (s : ByteArray) (i : Nat) (d : Int) (lo : List Grp) (g : Grp) (H : PI w0 w P G cap s i d (lo ++ [g])) (hok : g.Ok) (hlo : lo.length ≤ 100) :
  Calls Tryz.prog 107 #[ptr P] w fun e w' => e = .returned (.tuple #[]) ∧ PI w0 w' P G cap s i d (lo ++ [g.nextWay]) := by
 obtain ⟨_, _, _, _, c4, _⟩ := ps_cells H.ps
 have HL := zh (last_ps w P G (lo ++ [g]).length lo.length cap s i d H.ps (by simp) (by omega))
 have HN := zh (fun w' h => nextWay_any w0 w' P G cap s i d lo g h hok)
 have HH := zh H
 clear H
 generalize lo.length * 2 = k2 at HL HN
 go_enter Tryz.func107, Tryz.ntmps107
 go_wp2_with fail
 refine HL.out.mono ?_
 rintro e w1 ⟨rfl, hb1⟩
 have HN1 := zh (HN.out w1 (HH.out.below hb1))
 clear hb1
 go_wp2_with fail
 refine HN1.out.mono ?_
 rintro e w2 ⟨rfl, h2⟩
 have HF := zh h2
 clear h2
 go_wp2
 go_end0
 exact ⟨rfl, HF.out⟩
set_option maxHeartbeats 1000000 in
theorem alt_none (w : World) (P : Nat) (s : ByteArray) (i : Nat) (ov : Value) (d : Int) (H : PsB w P s i ov d true) :
  Calls Tryz.prog 107 #[ptr P] w fun e w' => e = .returned (.tuple #[]) ∧ w' = w := by
 obtain ⟨_, _, _, _, c4, _⟩ := ps_cells H
 clear H
 go_enter Tryz.func107, Tryz.ntmps107
 go_wp2
 go_end0
 exact ⟨rfl, rfl⟩

theorem deep_ps {w : World} {P : Nat} {s : ByteArray} {i : Nat} {ov : Value} {d : Int} {l : Bool} (h : PsB w P s i ov d l) (d1 : Int) : PsB (w.setCell ⟨P, 3, none⟩ (.int .i64 d1)) P s i ov d1 l := by
 unfold PsB at h ⊢
 rw [set_heap w P 3 _ _ _ _ h]; rfl
theorem PI.deep {w0 w : World} {P G cap : Nat} {s : ByteArray} {i : Nat} {d : Int} {gs : List Grp} (H : PI w0 w P G cap s i d gs) (d1 : Int) : PI w0 (w.setCell ⟨P, 3, none⟩ (.int .i64 d1)) P G cap s i d1 gs := H.psk (Kb.setCell w ⟨P, 3, none⟩ _) (deep_ps H.ps d1)

set_option maxRecDepth 100000 in
set_option maxHeartbeats 2000000 in
theorem end_some (w0 w : World) (P G cap : Nat) (s : ByteArray) (i d : Nat) (lo : List Grp) (b g : Grp) (H : PI w0 w P G cap s i ((d + 1 : Nat) : Int) (lo ++ [b] ++ [g])) (hok : g.Ok) (hlo : lo.length ≤ 100) (hd : d ≤ 1000000) (hrow : b.row.length ≤ 1000) :
  Calls Tryz.prog 109 #[ptr P] w fun e w' => e = .returned (.tuple #[]) ∧ PI w0 w' P G cap s i d (lo ++ [b.put g.whole]) := by
 obtain ⟨_, _, _, c3, c4, cf⟩ := ps_cells H.ps
 have f3 := cf 3
 obtain ⟨dd, hdd⟩ : ∃ dd : Int, dd = ((d + 1 : Nat) : Int) := ⟨_, rfl⟩
 have p1 : IntKind.i64.wrap (dd - 1) = (d : Int) := by rw [hdd, IntWalk.i64_in _ (by omega)]; omega
 rw [← hdd] at c3
 have H1 := H.deep (d : Int)
 have HL := zh (last_ps _ P G (lo ++ [b] ++ [g]).length (lo ++ [b]).length cap s i d H1.ps (by simp) (by simp; omega))
 have HN := zh (fun w' h => whole_any w0 w' P G cap s i d (lo ++ [b]) g h hok)
 have HH := zh H1
 clear H H1 hdd cf
 generalize (lo ++ [b]).length * 2 = k2 at HL HN
 go_enter Tryz.func109, Tryz.ntmps109
 go_wp2_with fail
 refine HL.out.mono ?_
 rintro e w1 ⟨rfl, hb1⟩
 have HN1 := zh (HN.out w1 (HH.out.below hb1))
 clear hb1
 go_wp2_with fail
 refine HN1.out.mono ?_
 rintro e w2 ⟨nb, rfl, ρ, vs, X1, X2, X3⟩
 obtain ⟨_, _, q2, _, _, qf⟩ := ps_cells X1.ps
 have f2 := qf 2
 obtain ⟨n, hn⟩ : ∃ n, n = (lo ++ [b] ++ [g.nextWay]).length := ⟨_, rfl⟩
 obtain ⟨n1, hn1⟩ : ∃ n1, n1 = (lo ++ [b]).length := ⟨_, rfl⟩
 rw [← hn] at q2 X1
 have hnn : n = n1 + 1 := by rw [hn, hn1]; simp
 have hn1b : n1 ≤ 101 := by rw [hn1]; simp; omega
 obtain ⟨_, _, _, hcn, _, _⟩ := X1.blk
 have r1 : IntKind.i64.wrap ((n : Int) - 1) = (n1 : Int) := by rw [hnn, IntWalk.i64_in _ (by omega)]; omega
 have r2 : (0 : Int) ≤ (n1 : Int) := by omega
 have r3 : (n1 : Int) ≤ (cap : Int) := by omega
 have hpop := X1.pop (n' := n1) (by omega)
 have hnq := ndq_kb X3 (Kb.setCell w2 ⟨P, 2, none⟩ (.slice (some ⟨G, 0, none⟩) n1 cap)) (fun i _ he => by have he' : i = P := he; rw [he', X1.rP]; omega)
 have hfin : PIn w0 (w2.setCell ⟨P, 2, none⟩ (.slice (some ⟨G, 0, none⟩) n1 cap)) P G cap s i d (lo ++ [b]) g.whole nb := by
  refine ⟨ρ, vs.take (n1 * 2), ?_, fun i hi => X2 i (by simpa [World.setCell] using hi), hnq⟩
  rw [hn1] at hpop ⊢
  have e1 := flatG_take (lo ++ [b]) [g.nextWay]
  rw [e1] at hpop
  exact hpop
 have hfd : PIn w0 (w2.setCell ⟨P, 2, none⟩ (.slice (some ⟨G, 0, none⟩) n1 cap)).drew P G cap s i d (lo ++ [b]) g.whole nb := by
  obtain ⟨ρ, vs, Y1, Y2, Y3⟩ := hfin
  have hbd : Below (w2.setCell ⟨P, 2, none⟩ (.slice (some ⟨G, 0, none⟩) n1 cap)).heap.size (w2.setCell ⟨P, 2, none⟩ (.slice (some ⟨G, 0, none⟩) n1 cap)) (w2.setCell ⟨P, 2, none⟩ (.slice (some ⟨G, 0, none⟩) n1 cap)).drew := (Below.refl _ _).drew
  exact ⟨ρ, vs, Y1.below hbd, Y2, ndq_kb Y3 (Kb.of_below (fun _ => False) hbd) (fun _ _ h => h.elim)⟩
 have HP := zh (put_any w0 _ P G cap s i d lo b g.whole nb hfd (by omega) hrow)
 clear hfin hfd hpop hnq X1 X2 X3 qf hn hn1 hnn hn1b hcn
 go_wp2_with fail
 go_region
 go_wp2_with fail
 refine HP.out.mono ?_
 rintro e w3 ⟨rfl, h3⟩
 have HF := zh h3
 clear h3
 go_wp2
 go_end0
 exact ⟨rfl, HF.out⟩
set_option maxHeartbeats 1000000 in
theorem end_none (w : World) (P : Nat) (s : ByteArray) (i : Nat) (ov : Value) (d : Nat) (H : PsB w P s i ov ((d + 1 : Nat) : Int) true) (hd : d ≤ 1000000) :
  Calls Tryz.prog 109 #[ptr P] w fun e w' => e = .returned (.tuple #[]) ∧ PsB w' P s i ov d true ∧ Kb (fun j => j = P) w w' := by
 obtain ⟨_, _, _, c3, c4, cf⟩ := ps_cells H
 have f3 := cf 3
 obtain ⟨dd, hdd⟩ : ∃ dd : Int, dd = ((d + 1 : Nat) : Int) := ⟨_, rfl⟩
 have p1 : IntKind.i64.wrap (dd - 1) = (d : Int) := by rw [hdd, IntWalk.i64_in _ (by omega)]; omega
 rw [← hdd] at c3
 have HF := zh (deep_ps H (d : Int))
 clear H hdd cf
 go_enter Tryz.func109, Tryz.ntmps109
 go_wp2
 go_end0
 exact ⟨rfl, HF.out, Kb.setCell w ⟨P, 3, none⟩ _⟩
set_option maxHeartbeats 1000000 in
theorem begin_none (w : World) (P : Nat) (s : ByteArray) (i : Nat) (ov : Value) (d : Nat) (H : PsB w P s i ov d true) (hd : d ≤ 1000000) :
  Calls Tryz.prog 108 #[ptr P] w fun e w' => e = .returned (.tuple #[]) ∧ PsB w' P s i ov ((d + 1 : Nat) : Int) true ∧ Kb (fun j => j = P) w w' := by
 obtain ⟨_, _, _, c3, c4, cf⟩ := ps_cells H
 have f3 := cf 3
 obtain ⟨dd, hdd⟩ : ∃ dd : Int, dd = ((d + 1 : Nat) : Int) := ⟨_, rfl⟩
 have p1 : IntKind.i64.wrap ((d : Int) + 1) = dd := by rw [hdd, IntWalk.i64_in _ (by omega)]; omega
 rw [← hdd]
 have HF := zh (deep_ps H dd)
 clear H hdd cf
 go_enter Tryz.func108, Tryz.ntmps108
 go_wp2
 go_end0
 exact ⟨rfl, HF.out, Kb.setCell w ⟨P, 3, none⟩ _⟩
end Go.Proofs.YtejdfpieblkapaaGreatDoor

/- Carried from another seat. -/
namespace Go.Proofs.YtejdfpieblkapaaGreatDoor
open Lib renaming hid → zh
open Go.RowKit Go.Shelf


theorem RwAt.lastNd {w : World} {ρ : Nat → Nat} {role : Nat} {v : Value} {rs : List Rx} {z : Rx} (h : RwAt w ρ role v (rs ++ [z])) : ∃ gr c bz, v = .slice (some ⟨gr, 0, none⟩) (rs.length + 1) c ∧ rs.length + 1 ≤ c ∧ c ≤ 9223372036854775807 ∧ w.cell? ⟨gr, rs.length, none⟩ = some (ptr bz) ∧ NdQ w (fun i => ρ i = 0) z bz ∧ w.frozen? ⟨gr, rs.length, none⟩ = false ∧ ρ gr = role ∧ gr < w.heap.size := by
 obtain ⟨bs, h1, h2, h3⟩ := h
 rw [List.length_append, List.length_singleton] at h1
 have hl := h2.1
 rw [List.length_append, List.length_singleton] at hl
 rcases h1.2 with ⟨_, hn⟩ | ⟨g, cap, cur, hv, _, hh, k1, k2, k3, k4⟩
 ·omega
 ·obtain ⟨bz, hbz⟩ : ∃ bz, bs[rs.length]? = some bz := ⟨_, List.getElem?_eq_getElem (by omega)⟩
  refine ⟨g, cap, bz, hv, k1, by unfold maxLen at k2; omega, ?_, h2.2 rs.length z bz (by simp) hbz, Lib.frozen_of_heap hh _, h3 g (by rw [hv]; rfl), lt_of_heap hh⟩
  rw [Lib.cell_of_heap hh]
  have : (bs.map ptr)[rs.length]? = some (ptr bz) := by rw [List.getElem?_map, hbz]; rfl
  rw [← k4, List.getElem?_take_of_lt (by omega)] at this
  simpa using this
theorem RwAt.setLast {w : World} {ρ : Nat → Nat} {role : Nat} {rs : List Rx} {z r : Rx} {gr c nb : Nat} (h : RwAt w ρ role (.slice (some ⟨gr, 0, none⟩) (rs.length + 1) c) (rs ++ [z])) (hr : NdQ w (fun i => ρ i = 0) r nb) (h0 : role ≠ 0) : RwAt (w.setCell ⟨gr, rs.length, none⟩ (ptr nb)) ρ role (.slice (some ⟨gr, 0, none⟩) (rs.length + 1) c) (rs ++ [r]) := by
 obtain ⟨bs, h1, h2, h3⟩ := h
 have hk := Kb.setCell w ⟨gr, rs.length, none⟩ (ptr nb)
 have hx : ∀ i, i < w.heap.size → i = gr → ρ i ≠ 0 := fun i _ e => by rw [e, h3 gr rfl]; exact h0
 rw [List.length_append, List.length_singleton] at h1
 have hl := h2.1
 rw [List.length_append, List.length_singleton] at hl
 rcases h1.2 with ⟨hv, hn⟩ | ⟨g, cap, cur, hv, k0, hh, k1, k2, k3, k4⟩
 ·omega
 ·have e1 : gr = g := by injection hv with e; injection e with e; injection e
  have e2 : c = cap := by injection hv
  subst e1; subst e2
  refine ⟨bs.set rs.length nb, ⟨by simp; omega, .inr ⟨gr, c, cur.set! rs.length (ptr nb), by simp, k0, set_heap w gr rs.length cur (ptr nb) 68 (0, 0) hh, by simpa using k1, k2, by simp [k3], ?_⟩⟩, ⟨by simp; omega, fun j x y hx1 hy1 => ?_⟩, h3⟩
  ·simp only [Array.set!_eq_setIfInBounds, Array.toList_setIfInBounds, List.length_append, List.length_singleton]
   rw [List.take_set, k4, List.map_set]
  ·by_cases hj : j = rs.length
   ·subst hj
    have e1 : r = x := by simpa using hx1
    rw [List.getElem?_set_self (by omega)] at hy1
    injection hy1 with e2
    subst e1; subst e2
    exact ndq_kb hr hk hx
   ·rw [List.getElem?_set_ne (Ne.symm hj)] at hy1
    have hjl : j < rs.length := by
     have := (List.getElem?_eq_some_iff.1 hx1).1
     simp at this; omega
    rw [List.getElem?_append_left hjl] at hx1
    exact ndq_kb (h2.2 j x y (by rw [List.getElem?_append_left hjl]; exact hx1) hy1) hk hx

theorem PI.step {w0 w : World} {P G cap : Nat} {s : ByteArray} {i : Nat} {d : Int} {gs : List Grp} (H : PI w0 w P G cap s i d gs) (j : Nat) : PI w0 (w.setCell ⟨P, 1, none⟩ (.int .i64 j)) P G cap s j d gs := H.psk (Kb.setCell w ⟨P, 1, none⟩ _) (H.ps.step j)
set_option maxRecDepth 100000 in
set_option maxHeartbeats 2000000 in
theorem repeat_some (w0 w : World) (P G cap : Nat) (s : ByteArray) (i : Nat) (d : Int) (lo : List Grp) (g : Grp) (rs : List Rx) (z : Rx) (hg : g.row = rs ++ [z]) (H : PI w0 w P G cap s i d (lo ++ [g])) (hok : g.Ok) (hlo : lo.length ≤ 100) (hi : i < s.size) (hs : s.size ≤ 1000000) :
  Calls Tryz.prog 112 #[ptr P] w fun e w' => e = .returned (.tuple #[]) ∧ PI w0 w' P G cap s (i + 1) d (lo ++ [g.rep (nx s.data.toList i)]) := by
 have HN := zh (next_any w P s i _ d false H.ps (by omega) hs)
 have hrep : g.rep (nx s.data.toList i) = ⟨g.ways, rs ++ [repF z (nx s.data.toList i)]⟩ := by unfold Grp.rep; rw [hg]; simp
 rw [hrep]
 generalize nx s.data.toList i = c at HN
 have hz : z.size ≤ 90000 := by have := szs_mem (l := g.row) (r := z) (by rw [hg]; simp); have := hok.szr; omega
 have hrl : rs.length ≤ 900 := by have := hok.row; rw [hg] at this; simp at this; omega
 obtain ⟨j, hj⟩ : ∃ j : Int, j = ((i + 1 : Nat) : Int) := ⟨_, rfl⟩
 have p1 : IntKind.i64.wrap ((i : Int) + 1) = j := by rw [hj, IntWalk.i64_in _ (by omega)]; omega
 have HJ := zh hj
 have HH := zh H
 have HG := zh hg
 obtain ⟨m1, hm1⟩ : ∃ m1, m1 = rs.length := ⟨_, rfl⟩
 obtain ⟨m, hm⟩ : ∃ m, m = m1 + 1 := ⟨_, rfl⟩
 have r1 : IntKind.i64.wrap ((m : Int) - 1) = (m1 : Int) := by rw [hm, IntWalk.i64_in _ (by omega)]; omega
 have r2 : (0 : Int) ≤ (m1 : Int) := by omega
 have r3 : (m1 : Int) < (m : Int) := by omega
 have HM1 := zh hm1; have HM := zh hm
 clear H hj hg hrep hm hm1 hok
 go_enter Tryz.func112, Tryz.ntmps112
 go_wp2_with fail
 refine HN.out.mono ?_
 rintro e w1 ⟨rfl, h1, h2⟩
 obtain ⟨_, c1, _, _, _, cf⟩ := ps_cells h1
 have f1 := cf 1
 have H1 := (HH.out.below h2).step (i + 1)
 rw [← HJ.out] at H1
 obtain ⟨_, _, _, _, c4, _⟩ := ps_cells H1.ps
 have HL := zh (last_ps _ P G (lo ++ [g]).length lo.length cap s (i + 1) d H1.ps (by simp) (by omega))
 obtain ⟨k2, hk2⟩ : ∃ k2, k2 = lo.length * 2 := ⟨_, rfl⟩
 rw [← hk2] at HL
 have HK2 := zh hk2
 have H1' := zh H1
 clear h1 h2 H1 cf hk2
 go_wp2_with fail
 refine HL.out.mono ?_
 rintro e w2 ⟨rfl, hb2⟩
 obtain ⟨ρ, vs, X1, hf⟩ := H1'.out.below hb2
 obtain ⟨a, b, ha, hb, ra, rb⟩ := X1.last
 rw [HG.out] at rb
 have rb0 := rb
 obtain ⟨gr, cc, bz, hv, u1, u2, u3, u4, u5, u6, u7⟩ := rb.lastNd
 subst hv
 rw [← HK2.out] at hb rb0
 have q1 := X1.cell hb
 rw [← HM1.out, ← HM.out] at q1 u1 hb
 rw [← HM1.out] at u3 u5
 have HR := zh (repeated_q (fun i => ρ i = 0) w2 z bz c u4 hz)
 have HX := zh X1; have HF := zh hf; have HB := zh hb; have HRB := zh rb0; have HU6 := zh u6
 have HU5 := zh u5; have HU3 := zh u3
 clear X1 hf ha hb ra rb rb0 u4 hb2 u6
 go_wp2_with fail
 refine HR.out.mono ?_
 rintro e w3 ⟨nb, rfl, y1, y2⟩
 have hX3 := HX.out.below y2
 have hk3 := Kb.of_below (fun _ => False) y2
 have x3 : w3.cell? ⟨gr, m1, none⟩ = some (ptr bz) := (far_cell (a := ⟨gr, m1, none⟩) hk3 u7 (fun h => h)).1.trans HU3.out
 have x4 : w3.frozen? ⟨gr, m1, none⟩ = false := (far_cell (a := ⟨gr, m1, none⟩) hk3 u7 (fun h => h)).2.trans HU5.out
 have hnq := ndq_fresh HF.out y1
 have hrw := (HRB.out.keep hk3 (fun _ _ h => h.elim)).setLast hnq (by omega)
 rw [← HM1.out, ← HM.out] at hrw
 have hp4 := ((hX3.hole (h := 3 + (k2 + 1))).kb (Kb.setCell w3 ⟨gr, m1, none⟩ (ptr nb)) (fun i _ he => by have he' : i = gr := he; rw [he', HU6.out, HK2.out]) (by omega)).fill HB.out hrw
 have HFin := zh (show PI w0 (w3.setCell ⟨gr, m1, none⟩ (ptr nb)) P G cap s (i + 1) d (lo ++ [⟨g.ways, rs ++ [repF z c]⟩]) from ⟨ρ, vs, by
  have e1 : (flatG (lo ++ [g])).set (k2 + 1) (rs ++ [repF z c]) = flatG (lo ++ [⟨g.ways, rs ++ [repF z c]⟩]) := by rw [HK2.out]; exact flatG_set_row lo g _
  have e2 : (lo ++ [g]).length = (lo ++ [(⟨g.ways, rs ++ [repF z c]⟩ : Grp)]).length := by simp
  rw [← e1, ← e2]; exact hp4, fun i hi => HF.out i (Nat.le_trans y2.size (by simpa [World.setCell] using hi))⟩)
 clear y1 y2 hX3 hk3 hnq hrw hp4
 go_wp2
 go_end0
 exact ⟨rfl, HFin.out⟩
set_option maxHeartbeats 1000000 in
theorem repeat_none (w : World) (P : Nat) (s : ByteArray) (i : Nat) (ov : Value) (d : Int) (H : PsB w P s i ov d true) (hi : i < s.size) (hs : s.size ≤ 1000000) :
  Calls Tryz.prog 112 #[ptr P] w fun e w' => e = .returned (.tuple #[]) ∧ PsB w' P s (i + 1) ov d true ∧ Kb (fun j => j = P) w w' := by
 have HN := zh (next_any w P s i _ d true H (by omega) hs)
 generalize nx s.data.toList i = c at HN
 obtain ⟨j, hj⟩ : ∃ j : Int, j = ((i + 1 : Nat) : Int) := ⟨_, rfl⟩
 have p1 : IntKind.i64.wrap ((i : Int) + 1) = j := by rw [hj, IntWalk.i64_in _ (by omega)]; omega
 have HJ := zh hj
 clear H hj
 go_enter Tryz.func112, Tryz.ntmps112
 go_wp2_with fail
 refine HN.out.mono ?_
 rintro e w1 ⟨rfl, h1, h2⟩
 obtain ⟨_, c1, _, _, c4, cf⟩ := ps_cells h1
 have f1 := cf 1
 have HF := zh (And.intro (h1.step (i + 1)) ((Kb.of_below (fun j => j = P) h2).trans (Kb.setCell w1 ⟨P, 1, none⟩ (.int .i64 j)) (fun _ _ h => h)))
 rw [← HJ.out] at HF
 clear h1 h2 cf
 go_wp2
 go_end0
 exact ⟨rfl, HF.out.1, HF.out.2⟩
end Go.Proofs.YtejdfpieblkapaaGreatDoor

/- Carried from another seat. -/
namespace Go.Proofs.YtejdfpieblkapaaGreatDoor
open Lib renaming hid → zh
open Go.RowKit Go.Shelf


theorem szs_take {l : List Rx} {k : Nat} {r : Rx} (h : l[k]? = some r) : szs (l.take (k + 1)) = szs (l.take k) + r.size := by
 rw [List.take_add_one, h, szs_append]; simp [szs]
theorem szs_take_le (l : List Rx) (k : Nat) : szs (l.take k) ≤ szs l := by
 have := List.take_append_drop k l
 have h2 : szs (l.take k ++ l.drop k) = szs l := by rw [this]
 rw [szs_append] at h2; omega
theorem gsz_take {l : List Grp} {k : Nat} {r : Grp} (h : l[k]? = some r) : gsz (l.take (k + 1)) = gsz (l.take k) + r.size := by
 rw [List.take_add_one, h, gsz_append]; simp [gsz]
theorem gsz_take_le (l : List Grp) (k : Nat) : gsz (l.take k) ≤ gsz l := by
 have := List.take_append_drop k l
 have h2 : gsz (l.take k ++ l.drop k) = gsz l := by rw [this]
 rw [gsz_append] at h2; omega

set_option maxRecDepth 100000 in
set_option maxHeartbeats 2000000 in
theorem size_any (w : World) (G c c1 : Nat) (A B : Option Addr) (m n ca cb : Nat) (asl bsl : List Nat) (ways row : List Rx) (hc1 : c1 = c + 1) (q1 : w.cell? ⟨G, c, none⟩ = some (.slice A m ca)) (q2 : w.cell? ⟨G, c1, none⟩ = some (.slice B n cb)) (hm : m = ways.length) (hn : n = row.length) (ra : RowAt w A asl) (na : NdsAt w ways asl) (rb : RowAt w B bsl) (nb : NdsAt w row bsl) (hca : m ≤ ca) (hcb : n ≤ cb) (hz : szs ways + szs row ≤ 1000000) :
  Calls Tryz.prog 138 #[.pointer (some ⟨G, c, none⟩)] w fun e w' => e = .returned (.int .i64 ((szs ways + szs row : Nat) : Int)) ∧ w' = w := by
 have hmb : m ≤ 1000000 := by have := szs_len ways; omega
 have hnb : n ≤ 1000000 := by have := szs_len row; omega
 have HC1 := zh hc1; have HM := zh hm; have HN := zh hn; have HRA := zh ra; have HNA := zh na; have HRB := zh rb; have HNB := zh nb; have HZ := zh hz
 subst hc1
 clear hm hn ra na rb nb hz
 go_enter Tryz.func138, Tryz.ntmps138
 go_wp2_with fail
 go_loopw [3, 13] (fun t a wr => ∃ k S : Nat, k ≤ m ∧ a = .int .i64 k ∧ t = .int .i64 S ∧ S ≤ 1000000 ∧ Hid (S = szs (ways.take k)) ∧ wr = w) (fun _ a _ => m - (intOf a).toNat)
 case atStart => exact ⟨0, 0, Nat.zero_le _, rfl, rfl, by omega, rfl, rfl⟩
 case round =>
  obtain ⟨k, S, hk, rfl, rfl, hS, HS, rfl⟩ := hrel
  by_cases hlt : k < m
  ·obtain ⟨r, hr⟩ : ∃ r, ways[k]? = some r := ⟨_, List.getElem?_eq_getElem (by rw [← HM.out]; exact hlt)⟩
   obtain ⟨b, hb⟩ : ∃ b, asl[k]? = some b := ⟨_, List.getElem?_eq_getElem (by rw [← HNA.out.1, ← HM.out]; exact hlt)⟩
   obtain ⟨g, hA, hcell, hgl⟩ := HRA.out.get hb
   subst hA
   obtain ⟨hsz, _, hbl⟩ := nd_size (HNA.out.2 k r b hr hb)
   have e1 := szs_take hr
   have e2 := szs_take_le ways (k + 1)
   have hrz : r.size + S ≤ 1000000 := by have := HZ.out; have := HS.out; omega
   obtain ⟨rz, hrz'⟩ : ∃ rz, rz = r.size := ⟨_, rfl⟩
   rw [← hrz'] at hsz hrz
   have HE := zh (show S + rz = szs (ways.take (k + 1)) by rw [e1, ← hrz', ← HS.out])
   have hki : (k : Int) < m := by omega
   have hk0 : (0 : Int) ≤ k := by omega
   clear hr hb e1 e2 hrz'
   go_wp2
   go_roundw
   case rel => exact ⟨k + 1, S + rz, by omega, by go_num, by go_num, by omega, HE.out, by first | rfl | trivial⟩
   case measure => simp [intOf]; omega
  ·obtain rfl : k = m := by omega
   have hS1 : S = szs ways := by rw [HS.out, HM.out, List.take_length]
   have HS1 := zh hS1
   clear hS1 HS
   go_wp2_with fail
   go_loopw [3, 29] (fun t a wr2 => ∃ j T : Nat, j ≤ n ∧ a = .int .i64 j ∧ t = .int .i64 T ∧ T ≤ 1000000 ∧ Hid (T = szs ways + szs (row.take j)) ∧ wr2 = wr) (fun _ a _ => n - (intOf a).toNat)
   case atStart => exact ⟨0, S, Nat.zero_le _, rfl, rfl, hS, by rw [HS1.out]; rfl, rfl⟩
   case round =>
    obtain ⟨j, T, hj, rfl, rfl, hT, HT, rfl⟩ := hrel
    by_cases hlt : j < n
    ·obtain ⟨r, hr⟩ : ∃ r, row[j]? = some r := ⟨_, List.getElem?_eq_getElem (by rw [← HN.out]; exact hlt)⟩
     obtain ⟨b, hb⟩ : ∃ b, bsl[j]? = some b := ⟨_, List.getElem?_eq_getElem (by rw [← HNB.out.1, ← HN.out]; exact hlt)⟩
     obtain ⟨g, hA, hcell, hgl⟩ := HRB.out.get hb
     subst hA
     obtain ⟨hsz, _, hbl⟩ := nd_size (HNB.out.2 j r b hr hb)
     have e1 := szs_take hr
     have e2 := szs_take_le row (j + 1)
     have hrz : r.size + T ≤ 1000000 := by have := HZ.out; have := HT.out; omega
     obtain ⟨rz, hrz'⟩ : ∃ rz, rz = r.size := ⟨_, rfl⟩
     rw [← hrz'] at hsz hrz
     have HE := zh (show T + rz = szs ways + szs (row.take (j + 1)) by rw [e1, ← hrz', HT.out]; omega)
     have hki : (j : Int) < n := by omega
     have hk0 : (0 : Int) ≤ j := by omega
     clear hr hb e1 e2 hrz'
     go_wp2
     go_roundw
     case rel => exact ⟨j + 1, T + rz, by omega, by go_num, by go_num, by omega, HE.out, by first | rfl | trivial⟩
     case measure => simp [intOf]; omega
    ·obtain rfl : j = n := by omega
     have hT1 : T = szs ways + szs row := by rw [HT.out, HN.out, List.take_length]
     have HT1 := zh hT1
     clear hT1 HT
     go_wp2
     go_ret
     exact ⟨by rw [HT1.out]; rfl, rfl⟩

theorem flatG_at {gs : List Grp} {k : Nat} {g : Grp} (h : gs[k]? = some g) : (flatG gs)[k * 2]? = some g.ways ∧ (flatG gs)[k * 2 + 1]? = some g.row := by
 have hk : k < gs.length := (List.getElem?_eq_some_iff.1 h).1
 have e : gs = gs.take k ++ (g :: gs.drop (k + 1)) := by
  have h1 : gs.drop k = g :: gs.drop (k + 1) := by
   rw [List.drop_eq_getElem_cons hk]; congr 1
   exact (List.getElem?_eq_some_iff.1 h).2
  rw [← h1, List.take_append_drop]
 have hl : (gs.take k).length = k := by rw [List.length_take]; omega
 have e2 : flatG gs = flatG (gs.take k) ++ (g.ways :: g.row :: flatG (gs.drop (k + 1))) := by
  conv => lhs; rw [e]
  rw [flatG_append]; rfl
 have hl2 := flatG_len (gs.take k)
 rw [hl] at hl2
 rw [e2]
 exact ⟨by rw [List.getElem?_append_right (by omega), hl2, Nat.sub_self]; rfl, by rw [List.getElem?_append_right (by omega), hl2, Nat.add_sub_cancel_left]; rfl⟩
theorem PIx.grp {w0 w : World} {ρ : Nat → Nat} {P G cap : Nat} {s : ByteArray} {i : Nat} {d : Int} {gs : List Grp} {vs : List Value} (H : PIx 0 w0 w ρ P G cap s i d gs.length vs (flatG gs)) {k : Nat} {g : Grp} (h : gs[k]? = some g) :
  ∃ A ca asl B cb bsl, w.cell? ⟨G, k * 2, none⟩ = some (.slice A g.ways.length ca) ∧ w.cell? ⟨G, k * 2 + 1, none⟩ = some (.slice B g.row.length cb) ∧ RowAt w A asl ∧ NdsAt w g.ways asl ∧ RowAt w B bsl ∧ NdsAt w g.row bsl ∧ g.ways.length ≤ ca ∧ g.row.length ≤ cb := by
 have hk : k < gs.length := (List.getElem?_eq_some_iff.1 h).1
 have hl := H.lenv
 obtain ⟨a, ha⟩ : ∃ a, vs[k * 2]? = some a := ⟨_, List.getElem?_eq_getElem (by omega)⟩
 obtain ⟨b, hb⟩ : ∃ b, vs[k * 2 + 1]? = some b := ⟨_, List.getElem?_eq_getElem (by omega)⟩
 obtain ⟨f1, f2⟩ := flatG_at h
 obtain ⟨asl, a1, a2, _⟩ := H.rows _ _ _ ha f1 (by omega)
 obtain ⟨bsl, b1, b2, _⟩ := H.rows _ _ _ hb f2 (by omega)
 obtain ⟨A, ca, rfl, hca, _⟩ := own_form a1
 obtain ⟨B, cb, rfl, hcb, _⟩ := own_form b1
 exact ⟨A, ca, asl, B, cb, bsl, H.cell ha, H.cell hb, own_row a1, a2.nds, own_row b1, b2.nds, hca, hcb⟩

theorem long_ps {w : World} {P : Nat} {s : ByteArray} {i : Nat} {ov : Value} {d : Int} {l : Bool} (h : PsB w P s i ov d l) : PsB ((w.setCell ⟨P, 4, none⟩ (.bool true)).setCell ⟨P, 2, none⟩ (.slice none 0 0)) P s i (.slice none 0 0) d true ∧ Kb (fun j => j = P) w ((w.setCell ⟨P, 4, none⟩ (.bool true)).setCell ⟨P, 2, none⟩ (.slice none 0 0)) := by
 refine ⟨?_, (Kb.setCell w ⟨P, 4, none⟩ _).trans (Kb.setCell _ ⟨P, 2, none⟩ _) (fun _ _ h => h)⟩
 unfold PsB at h ⊢
 have h1 := set_heap w P 4 _ (.bool true) _ _ h
 rw [set_heap _ P 2 _ _ _ _ h1]; rfl

def WgTo (P : Nat) (s : ByteArray) (i d Z : Nat) (w : World) (e : Ending) (w' : World) : Prop := e = .returned (.tuple #[]) ∧ ((400 < Z ∨ 50 < d) → PsB w' P s i (.slice none 0 0) d true ∧ Kb (fun j => j = P) w w') ∧ (¬ (400 < Z ∨ 50 < d) → w' = w)
set_option maxRecDepth 100000 in
set_option maxHeartbeats 2000000 in
theorem weigh_some (w0 w : World) (P G cap : Nat) (s : ByteArray) (i : Nat) (d : Nat) (gs : List Grp) (H : PI w0 w P G cap s i d gs) (hz : gsz gs ≤ 100000) (hlen : gs.length ≤ 110) (hd : d ≤ 1000000) :
  Calls Tryz.prog 114 #[ptr P] w (WgTo P s i d (gsz gs) w) := by
 obtain ⟨ρ, vs, X, _⟩ := H
 have HX := zh X
 obtain ⟨_, _, c2, c3, c4, cf⟩ := ps_cells X.ps
 have f2 := cf 2; have f4 := cf 4
 have HPS := zh (long_ps X.ps)
 have hcap : gs.length ≤ cap := by obtain ⟨_, _, _, h, _⟩ := X.blk; exact h
 obtain ⟨n, hn⟩ : ∃ n, n = gs.length := ⟨_, rfl⟩
 rw [← hn] at c2 hcap hlen
 have HN := zh hn
 obtain ⟨Z, hZ⟩ : ∃ Z, Z = gsz gs := ⟨_, rfl⟩
 rw [← hZ] at hz ⊢
 have HZ := zh hZ
 clear X cf hn hZ
 go_enter Tryz.func114, Tryz.ntmps114
 go_wp2_with fail
 go_loopw [2, 9] (fun t a wr => ∃ k S : Nat, k ≤ n ∧ a = .int .i64 k ∧ t = .int .i64 S ∧ S ≤ 100000 ∧ Hid (S = gsz (gs.take k)) ∧ wr = w) (fun _ a _ => n - (intOf a).toNat)
 case atStart => exact ⟨0, 0, Nat.zero_le _, rfl, rfl, by omega, rfl, rfl⟩
 case round =>
  obtain ⟨k, S, hk, rfl, rfl, hS, HS, rfl⟩ := hrel
  by_cases hlt : k < n
  ·obtain ⟨g, hg⟩ : ∃ g, gs[k]? = some g := ⟨_, List.getElem?_eq_getElem (by rw [← HN.out]; exact hlt)⟩
   obtain ⟨A, ca, asl, B, cb, bsl, a1, a2, a3, a4, a5, a6, a7, a8⟩ := HX.out.grp hg
   have e1 := gsz_take hg
   have e2 := gsz_take_le gs (k + 1)
   have e3 : g.size = szs g.ways + szs g.row := rfl
   have hgz : S + g.size ≤ 100000 := by have := HZ.out; have := HS.out; omega
   have HSZ := zh (size_any wr G (k * 2) (k * 2 + 1) A B _ _ ca cb asl bsl g.ways g.row rfl a1 a2 rfl rfl a3 a4 a5 a6 a7 a8 (by omega))
   rw [← e3] at HSZ
   obtain ⟨gz, hgz'⟩ : ∃ gz, gz = g.size := ⟨_, rfl⟩
   rw [← hgz'] at HSZ hgz
   have HE := zh (show S + gz = gsz (gs.take (k + 1)) by rw [e1, ← hgz', ← HS.out])
   have hki : (k : Int) < n := by omega
   have hk0 : (0 : Int) ≤ k := by omega
   clear hg a1 a2 a3 a4 a5 a6 a7 a8 e1 e2 e3 hgz'
   go_wp2_with fail
   refine HSZ.out.mono ?_
   rintro e w2 ⟨rfl, rfl⟩
   go_wp2
   go_roundw
   case rel => exact ⟨k + 1, S + gz, by omega, by go_num, by go_num, by omega, HE.out, by first | rfl | trivial⟩
   case measure => simp [intOf]; omega
  ·obtain rfl : k = n := by omega
   have hS1 : S = Z := by rw [HS.out, HN.out, List.take_length, HZ.out]
   subst hS1
   clear HS
   by_cases h1 : 400 < S
   ·have h1i : (400 : Int) < (S : Int) := by omega
    go_wp2
    go_end0
    exact ⟨rfl, fun _ => HPS.out, fun h => absurd (.inl h1) h⟩
   ·have h1i : ¬ (400 : Int) < (S : Int) := by omega
    by_cases h2 : 50 < d
    ·have h2i : (50 : Int) < (d : Int) := by omega
     go_wp2
     go_end0
     exact ⟨rfl, fun _ => HPS.out, fun h => absurd (.inr h2) h⟩
    ·have h2i : ¬ (50 : Int) < (d : Int) := by omega
     go_wp2
     go_end0
     exact ⟨rfl, fun h => by omega, fun _ => rfl⟩
set_option maxRecDepth 100000 in
set_option maxHeartbeats 2000000 in
theorem weigh_none (w : World) (P : Nat) (s : ByteArray) (i : Nat) (d : Nat) (H : PsB w P s i (.slice none 0 0) d true) (hd : d ≤ 1000000) :
  Calls Tryz.prog 114 #[ptr P] w fun e w' => e = .returned (.tuple #[]) ∧ PsB w' P s i (.slice none 0 0) d true ∧ Kb (fun j => j = P) w w' := by
 obtain ⟨_, _, c2, c3, c4, cf⟩ := ps_cells H
 have f2 := cf 2; have f4 := cf 4
 have HPS := zh (long_ps H)
 have HH := zh H
 clear H cf
 go_enter Tryz.func114, Tryz.ntmps114
 go_wp2_with fail
 go_loopw [2, 9] (fun t a wr => a = .int .i64 0 ∧ t = .int .i64 0 ∧ wr = w) (fun _ _ _ => 0)
 case atStart => exact ⟨rfl, rfl, rfl⟩
 case round =>
  obtain ⟨rfl, rfl, rfl⟩ := hrel
  by_cases h2 : 50 < d
  ·have h2i : (50 : Int) < (d : Int) := by omega
   go_wp2
   go_end0
   exact ⟨rfl, HPS.out⟩
  ·have h2i : ¬ (50 : Int) < (d : Int) := by omega
   go_wp2
   go_end0
   exact ⟨rfl, HH.out, Kb.refl _ _⟩
end Go.Proofs.YtejdfpieblkapaaGreatDoor

/- Carried from another seat. -/
namespace Go.Proofs.YtejdfpieblkapaaGreatDoor
open Lib renaming hid → zh
open Go.RowKit Go.Shelf


section
variable {w0 w : World} {P : Nat} {s : ByteArray} {i : Nat} {d : Int} {st : Option (List Grp × Grp)}
theorem PS.open' (H : PS w0 w P s i d st) : ∃ ov l, PsB w P s i ov d l ∧ ∀ (w' : World) (i' : Nat) (d' : Int), Kb (fun j => j = P) w w' → PsB w' P s i' ov d' l → PS w0 w' P s i' d' st := by
 cases st with
 | none =>
  obtain ⟨h1, h2, h3⟩ := H
  exact ⟨_, _, h1, fun w' i' d' hk hp => ⟨hp, h2, h3.trans (hk.below h3.size (fun i he => by rw [show i = P from he]; exact h2))⟩⟩
 | some x =>
  obtain ⟨lo, g⟩ := x
  obtain ⟨G, cap, h⟩ := H
  exact ⟨_, _, h.ps, fun w' i' d' hk hp => ⟨G, cap, h.psk hk hp⟩⟩
theorem PS.below (H : PS w0 w P s i d st) {w' : World} (hb : Below w.heap.size w w') : PS w0 w' P s i d st := by
 obtain ⟨ov, l, h1, h2⟩ := H.open'
 exact h2 w' i d (Kb.of_below _ hb) (h1.below hb)
def putS (r : Rx) (x : List Grp × Grp) : List Grp × Grp := (x.1, x.2.put r)
set_option maxHeartbeats 1000000 in
theorem put_none (w : World) (P nb : Nat) (s : ByteArray) (i : Nat) (ov : Value) (d : Int) (H : PsB w P s i ov d true) :
  Calls Tryz.prog 130 #[ptr P, ptr nb] w fun e w' => e = .returned (.tuple #[]) ∧ w' = w := by
 obtain ⟨_, _, _, _, c4, _⟩ := ps_cells H
 clear H
 go_enter Tryz.func130, Tryz.ntmps130
 go_wp2
 go_end0
 exact ⟨rfl, rfl⟩
theorem putset (t : Ws) (H : PS w0 w P s i d st) (hb : ∀ lo g, st = some (lo, g) → lo.length ≤ 100 ∧ g.row.length ≤ 1000) :
  Calls Tryz.prog 137 #[wsV t] w fun e w1 => ∃ nb, e = .returned (ptr nb) ∧ Calls Tryz.prog 130 #[ptr P, ptr nb] w1 fun e w2 => e = .returned (.tuple #[]) ∧ PS w0 w2 P s i d (st.map (putS (.set t))) := by
 cases st with
 | none =>
  refine (set_q (fun _ => True) t w).mono ?_
  rintro e w1 ⟨nb, rfl, y1, y2⟩
  have H1 := H.below y2
  refine ⟨nb, rfl, (put_none w1 P nb s i _ d H1.1).mono ?_⟩
  rintro e w2 ⟨rfl, rfl⟩
  exact ⟨rfl, H1⟩
 | some x =>
  obtain ⟨lo, g⟩ := x
  obtain ⟨G, cap, ρ, vs, X, hf⟩ := H
  obtain ⟨b1, b2⟩ := hb lo g rfl
  refine (set_q (fun i => ρ i = 0) t w).mono ?_
  rintro e w1 ⟨nb, rfl, y1, y2⟩
  refine ⟨nb, rfl, (put_any w0 w1 P G cap s i d lo g (.set t) nb ⟨ρ, vs, X.below y2, fun i hi => hf i (Nat.le_trans y2.size hi), ndq_fresh hf y1⟩ b1 b2).mono ?_⟩
  rintro e w2 ⟨rfl, h⟩
  exact ⟨rfl, G, cap, h⟩
end
def AtTo (w0 : World) (P : Nat) (s : ByteArray) (i : Nat) (d : Int) (st : Option (List Grp × Grp)) (e : Ending) (w' : World) : Prop :=
 (∃ t j, atomF s.data.toList i = some (t, j) ∧ e = .returned (.bool true) ∧ PS w0 w' P s j d (st.map (putS (.set t)))) ∨ (atomF s.data.toList i = none ∧ e = .returned (.bool false) ∧ ∃ j, j ≤ s.size ∧ PS w0 w' P s j d st)

set_option maxRecDepth 100000 in
set_option maxHeartbeats 4000000 in
theorem atom_any (w0 w : World) (P : Nat) (s : ByteArray) (i : Nat) (d : Int) (st : Option (List Grp × Grp)) (H : PS w0 w P s i d st) (hb : ∀ lo g, st = some (lo, g) → lo.length ≤ 100 ∧ g.row.length ≤ 1000) (hi : i ≤ s.size) (hs : s.size ≤ 1000000) :
  Calls Tryz.prog 113 #[ptr P] w (AtTo w0 P s i d st) := by
 obtain ⟨ov, l, hp, hback⟩ := H.open'
 have hPl := lt_of_heap hp
 have hb0 : Below w.heap.size w (w.alloc (.cells #[.int .u64 0, .int .u64 0, .int .u64 0, .int .u64 0] 100)) := (Below.refl _ w).alloc (Nat.le_refl _) _
 have hA0 := alloc_ws w
 have hz0 : (w.alloc (.cells #[.int .u64 0, .int .u64 0, .int .u64 0, .int .u64 0] 100)).heap.size = w.heap.size + 1 := by simp
 have hp0 := hp.below hb0
 -- behind the reading: a set is put
 have hput : ∀ (w1 : World) (t : Ws) (j : Nat), Kb (fun j => j = P) w w1 → PsB w1 P s j ov d l → Calls Tryz.prog 137 #[wsV t] w1 fun e w1 => ∃ nb, e = .returned (ptr nb) ∧ Calls Tryz.prog 130 #[ptr P, ptr nb] w1 fun e w2 => e = .returned (.tuple #[]) ∧ PS w0 w2 P s j d (st.map (putS (.set t))) := fun w1 t j hk hp => putset t (hback w1 j d hk hp) hb
 have HPUT := zh hput; have HBACK := zh hback
 have HK0 := zh (Kb.of_below (fun j => j = P) hb0)
 have hat : atomF s.data.toList i = if nx s.data.toList i = 46 then some ((btw 10 1).inv 4, i + 1) else if nx s.data.toList i = 91 then classF s.data.toList (i + 1) else (letF OUT s.data.toList i).map fun x => (btw x.1 1, x.2) := rfl
 have HAT := zh hat
 clear hput hback H hb hat
 obtain ⟨w1, hw1⟩ : ∃ w1, w1 = w.alloc (.cells #[.int .u64 0, .int .u64 0, .int .u64 0, .int .u64 0] 100) := ⟨_, rfl⟩
 rw [← hw1] at hA0 hz0 hp0 HK0
 have HA0 := zh hA0
 have HW1 := zh hw1
 clear hp hb0 hA0
 by_cases h46 : nx s.data.toList i = 46
 ·have hlt := nx_in h46 (by omega)
  have HT := zh (take_yes w1 P 46 s i ov d l hp0 hi hs h46 (by omega))
  rw [hw1] at HT
  have HATe := zh (show atomF s.data.toList i = some ((btw 10 1).inv 4, i + 1) by rw [HAT.out, if_pos h46])
  clear hp0 hw1
  go_enter Tryz.func113, Tryz.ntmps113
  go_wp2_with fail
  refine HT.out.mono ?_
  rintro e w2 ⟨rfl, h1, h2⟩
  rw [← HW1.out] at h2
  have HK2 := zh (HK0.out.trans h2 (fun _ _ h => h))
  have HP2 := zh h1
  have HA2 := zh ((h2.block _ (by omega) (by omega)).trans HA0.out)
  have hz2 := h2.size
  clear h1 h2
  go_wp2_with fail
  refine (between_any 10 10 w2 (by omega) (by omega)).mono ?_
  rintro e w3 ⟨rfl, h3⟩
  have HO := zh (others_any (btw 10 1) w3 (btw_ok _ _))
  have HB3 := zh h3
  clear h3
  generalize (btw 10 1).inv 4 = t at HO HATe
  generalize btw 10 1 = t1 at HO ⊢
  go_wp2_with fail
  refine HO.out.mono ?_
  rintro e w4 ⟨rfl, h4⟩
  have hb4 := below_tr HB3.out h4 HB3.out.size
  have hA4 := (hb4.block _ (by omega)).trans HA2.out
  obtain ⟨z0, z1, z2, z3, f0, f1, f2, f3⟩ := ws_cells hA4
  have hk5 := set4_kb w4 w.heap.size t
  have hKK := (HK2.out.trans (Kb.of_below (fun j => j = P) hb4) (fun _ _ h => h)).trans hk5 (fun i hi h => by have h' : i = w.heap.size := h; omega)
  have hPP : PsB _ P s (i + 1) ov d l := (hk5.block P (Nat.lt_of_lt_of_le (lt_of_heap HP2.out) hb4.size) (by omega)).trans (HP2.out.below hb4)
  have HS := zh (HPUT.out _ t (i + 1) hKK hPP)
  clear h4 hb4 hA4 hk5 hKK hPP
  go_wp2_with fail
  refine HS.out.mono ?_
  rintro e w5 ⟨nb, rfl, h5⟩
  have H5 := zh h5
  clear h5
  go_wp2_with fail
  refine H5.out.mono ?_
  rintro e w6 ⟨rfl, h6⟩
  have H6 := zh h6
  clear h6
  go_wp2
  go_ret
  exact .inl ⟨t, i + 1, HATe.out, rfl, H6.out⟩
 ·have HTn := zh (take_no w1 P 46 s i ov d l hp0 hi hs h46)
  rw [hw1] at HTn
  by_cases h91 : nx s.data.toList i = 91
  ·have hlt := nx_in h91 (by omega)
   have HATe := zh (show atomF s.data.toList i = classF s.data.toList (i + 1) by rw [HAT.out, if_neg h46, if_pos h91])
   have HT := zh (fun (w' : World) h => take_yes w' P 91 s i ov d l h hi hs h91 (by omega))
   have HCL := zh (fun (w' : World) h => class_any w' P s (i + 1) ov d l h (by omega) hs)
   clear hp0 hw1
   go_enter Tryz.func113, Tryz.ntmps113
   go_wp2_with fail
   refine HTn.out.mono ?_
   rintro e w1' ⟨rfl, h1, h1b⟩
   rw [← HW1.out] at h1b
   have HK1 := zh (HK0.out.trans (Kb.of_below (fun j => j = P) h1b) (fun _ _ h => h))
   have HA1 := zh ((h1b.block _ (by omega)).trans HA0.out)
   have hz1 := h1b.size
   have HT1 := zh (HT.out w1' h1)
   clear h1 h1b
   go_wp2_with fail
   refine HT1.out.mono ?_
   rintro e w2 ⟨rfl, h1, h2⟩
   have HK2 := zh (HK1.out.trans h2 (fun _ _ h => h))
   have HA2 := zh ((h2.block _ (by omega) (by omega)).trans HA1.out)
   have hz2 := h2.size
   have HC2 := zh (HCL.out w2 h1)
   clear h1 h2
   go_wp2_with fail
   refine HC2.out.mono ?_
   rintro e w3 ⟨q1, q2⟩
   have hz3 := q1.size
   have hK3 := HK2.out.trans q1 (fun _ _ h => h)
   have hA3 := (q1.block _ (by omega) (by omega)).trans HA2.out
   obtain ⟨z0, z1, z2, z3, f0, f1, f2, f3⟩ := ws_cells hA3
   rcases q2 with ⟨t, j, hr, rfl, hpp⟩ | ⟨hr, t, rfl, j, hj, hpp⟩
   ·have hk5 := set4_kb w3 w.heap.size t
    have hKK := hK3.trans hk5 (fun i hi h => by have h' : i = w.heap.size := h; omega)
    have hPP : PsB _ P s j ov d l := (hk5.block P (lt_of_heap hpp) (by omega)).trans hpp
    have HS := zh (HPUT.out _ t j hKK hPP)
    have HR := zh hr
    clear q1 hK3 hA3 hr hpp hk5 hKK hPP
    go_wp2_with fail
    refine HS.out.mono ?_
    rintro e w5 ⟨nb, rfl, h5⟩
    have H5 := zh h5
    clear h5
    go_wp2_with fail
    refine H5.out.mono ?_
    rintro e w6 ⟨rfl, h6⟩
    have H6 := zh h6
    clear h6
    go_wp2
    go_ret
    exact .inl ⟨t, j, by rw [HATe.out, HR.out], rfl, H6.out⟩
   ·have hk5 := set4_kb w3 w.heap.size t
    have hKK := hK3.trans hk5 (fun i hi h => by have h' : i = w.heap.size := h; omega)
    have hPP : PsB _ P s j ov d l := (hk5.block P (lt_of_heap hpp) (by omega)).trans hpp
    have HS := zh (HBACK.out _ j d hKK hPP)
    have HR := zh hr
    clear q1 hK3 hA3 hr hpp hk5 hKK hPP
    go_wp2
    go_ret
    exact .inr ⟨by rw [HATe.out, HR.out], rfl, j, hj, HS.out⟩
  ·have HATe := zh (show atomF s.data.toList i = (letF OUT s.data.toList i).map fun x => (btw x.1 1, x.2) by rw [HAT.out, if_neg h46, if_neg h91])
   have HT := zh (fun (w' : World) h => take_no w' P 91 s i ov d l h hi hs h91)
   have HCL := zh (fun (w' : World) h => letter_any w' P OUT s i ov d l h hi hs out0)
   have hlf := fun b j h => letF_ok (sp := OUT) (s := s) (i := i) (b := b) (j := j) h hi out0
   have HLF := zh hlf
   clear hp0 hw1 hlf
   go_enter Tryz.func113, Tryz.ntmps113
   go_wp2_with fail
   refine HTn.out.mono ?_
   rintro e w1' ⟨rfl, h1, h1b⟩
   rw [← HW1.out] at h1b
   have HK1 := zh (HK0.out.trans (Kb.of_below (fun j => j = P) h1b) (fun _ _ h => h))
   have HA1 := zh ((h1b.block _ (by omega)).trans HA0.out)
   have hz1 := h1b.size
   have HT1 := zh (HT.out w1' h1)
   clear h1 h1b
   go_wp2_with fail
   refine HT1.out.mono ?_
   rintro e w2 ⟨rfl, h1, h2⟩
   have HK2 := zh (HK1.out.trans (Kb.of_below (fun j => j = P) h2) (fun _ _ h => h))
   have HA2 := zh ((h2.block _ (by omega)).trans HA1.out)
   have hz2 := h2.size
   have HC2 := zh (HCL.out w2 h1)
   clear h1 h2
   go_wp2_with fail
   refine HC2.out.mono ?_
   rintro e w3 ⟨q1, q2⟩
   have hz3 := q1.size
   have HK3 := zh (HK2.out.trans q1 (fun _ _ h => h))
   have HA3 := zh ((q1.block _ (by omega) (by omega)).trans HA2.out)
   rcases q2 with ⟨t, j, hr, rfl, hpp⟩ | ⟨hr, rfl, j, hj, hpp⟩
   ·have htl := (HLF.out t j hr).1
    have HBT := zh (between_any t t w3 htl htl)
    rw [show t + 1 - t = 1 by omega] at HBT
    have HR := zh hr; have HPP := zh hpp
    clear q1 hr hpp htl
    go_wp2_with fail
    refine HBT.out.mono ?_
    rintro e w4 ⟨rfl, h4⟩
    have hA4 := (h4.block _ (by omega)).trans HA3.out
    obtain ⟨z0, z1, z2, z3, f0, f1, f2, f3⟩ := ws_cells hA4
    have hk5 := set4_kb w4 w.heap.size (btw t 1)
    have hKK := (HK3.out.trans (Kb.of_below (fun j => j = P) h4) (fun _ _ h => h)).trans hk5 (fun i hi h => by have h' : i = w.heap.size := h; omega)
    have hPP : PsB _ P s j ov d l := (hk5.block P (Nat.lt_of_lt_of_le (lt_of_heap HPP.out) h4.size) (by omega)).trans (HPP.out.below h4)
    have HS := zh (HPUT.out _ (btw t 1) j hKK hPP)
    have hfin : atomF s.data.toList i = some (btw t 1, j) := by rw [HATe.out, HR.out]; rfl
    have HFI := zh hfin
    generalize btw t 1 = u at HS HFI z0 z1 z2 z3 f0 f1 f2 f3 ⊢
    clear h4 hA4 hk5 hKK hPP hfin
    go_wp2_with fail
    refine HS.out.mono ?_
    rintro e w5 ⟨nb, rfl, h5⟩
    have H5 := zh h5
    clear h5
    go_wp2_with fail
    refine H5.out.mono ?_
    rintro e w6 ⟨rfl, h6⟩
    have H6 := zh h6
    clear h6
    go_wp2
    go_ret
    exact .inl ⟨u, j, HFI.out, rfl, H6.out⟩
   ·have HBT := zh (between_any 0 0 w3 (by omega) (by omega))
    rw [show 0 + 1 - 0 = 1 by omega] at HBT
    have HR := zh hr; have HPP := zh hpp
    clear q1 hr hpp
    go_wp2_with fail
    refine HBT.out.mono ?_
    rintro e w4 ⟨rfl, h4⟩
    have hA4 := (h4.block _ (by omega)).trans HA3.out
    obtain ⟨z0, z1, z2, z3, f0, f1, f2, f3⟩ := ws_cells hA4
    have hk5 := set4_kb w4 w.heap.size (btw 0 1)
    have hKK := (HK3.out.trans (Kb.of_below (fun j => j = P) h4) (fun _ _ h => h)).trans hk5 (fun i hi h => by have h' : i = w.heap.size := h; omega)
    have hPP : PsB _ P s j ov d l := (hk5.block P (Nat.lt_of_lt_of_le (lt_of_heap HPP.out) h4.size) (by omega)).trans (HPP.out.below h4)
    have HS := zh (HBACK.out _ j d hKK hPP)
    have hfin : atomF s.data.toList i = none := by rw [HATe.out, HR.out]; rfl
    have HFI := zh hfin
    generalize btw 0 1 = u at HS ⊢
    clear h4 hA4 hk5 hKK hPP hfin
    go_wp2
    go_ret
    exact .inr ⟨HFI.out, rfl, j, hj, HS.out⟩
end Go.Proofs.YtejdfpieblkapaaGreatDoor

/- Carried from another seat. -/
namespace Go.Proofs.YtejdfpieblkapaaGreatDoor
open Go.RowKit Go.Shelf


section
variable {w0 w : World} {P : Nat} {s : ByteArray} {i : Nat} {d : Int} {st : Option (List Grp × Grp)}
theorem PS.cells (H : PS w0 w P s i d st) : w.cell? ⟨P, 0, none⟩ = some (.string s) ∧ w.cell? ⟨P, 1, none⟩ = some (.int .i64 i) ∧ w.cell? ⟨P, 3, none⟩ = some (.int .i64 d) := by
 obtain ⟨ov, l, h1, _⟩ := H.open'
 obtain ⟨c0, c1, _, c3, _, _⟩ := ps_cells h1
 exact ⟨c0, c1, c3⟩
theorem PS.bel (H : PS w0 w P s i d st) : Below w0.heap.size w0 w := by
 cases st with
 | none => exact H.2.2
 | some x => obtain ⟨lo, g⟩ := x; obtain ⟨G, cap, h⟩ := H; exact h.bel
theorem ptake_no (c : Nat) (H : PS w0 w P s i d st) (hi : i ≤ s.size) (hs : s.size ≤ 1000000) (hc : nx s.data.toList i ≠ c) : Calls Tryz.prog 106 #[ptr P, .int .u8 c] w fun e w' => e = .returned (.bool false) ∧ PS w0 w' P s i d st := by
 obtain ⟨ov, l, h1, h2⟩ := H.open'
 refine (take_no w P c s i ov d l h1 hi hs hc).mono ?_
 rintro e w' ⟨rfl, h3, h4⟩
 exact ⟨rfl, h2 w' i d (Kb.of_below _ h4) h3⟩
theorem ptake_yes (c : Nat) (H : PS w0 w P s i d st) (hi : i ≤ s.size) (hs : s.size ≤ 1000000) (hc : nx s.data.toList i = c) (hc0 : 0 < c) : Calls Tryz.prog 106 #[ptr P, .int .u8 c] w fun e w' => e = .returned (.bool true) ∧ PS w0 w' P s (i + 1) d st := by
 obtain ⟨ov, l, h1, h2⟩ := H.open'
 refine (take_yes w P c s i ov d l h1 hi hs hc hc0).mono ?_
 rintro e w' ⟨rfl, h3, h4⟩
 exact ⟨rfl, h2 w' (i + 1) d h4 h3⟩
theorem pnext (H : PS w0 w P s i d st) (hi : i ≤ s.size) (hs : s.size ≤ 1000000) : Calls Tryz.prog 111 #[ptr P] w fun e w' => e = .returned (.int .u8 (nx s.data.toList i)) ∧ PS w0 w' P s i d st := by
 obtain ⟨ov, l, h1, h2⟩ := H.open'
 refine (next_any w P s i ov d l h1 hi hs).mono ?_
 rintro e w' ⟨rfl, h3, h4⟩
 exact ⟨rfl, h2 w' i d (Kb.of_below _ h4) h3⟩
theorem PS.kb_none {w' : World} {i' : Nat} {d' : Int} (H : PS w0 w P s i d none) (hk : Kb (fun j => j = P) w w') (hp : PsB w' P s i' (.slice none 0 0) d' true) : PS w0 w' P s i' d' none := by
 obtain ⟨_, h2, h3⟩ := H
 exact ⟨hp, h2, h3.trans (hk.below h3.size (fun i he => by rw [show i = P from he]; exact h2))⟩
def Fit (st : Option (List Grp × Grp)) : Prop := ∀ lo g, st = some (lo, g) → lo.length ≤ 50 ∧ gsz (lo ++ [g]) ≤ 400
theorem Fit.ok {lo : List Grp} {g : Grp} (h : Fit (some (lo, g))) : lo.length ≤ 50 ∧ g.Ok ∧ g.size ≤ 400 ∧ gsz lo + g.size ≤ 400 := by
 obtain ⟨h1, h2⟩ := h lo g rfl
 rw [gsz_append, gsz_one] at h2
 have h3 : g.size = szs g.ways + szs g.row := rfl
 have h4 := szs_len g.ways
 have h5 := szs_len g.row
 exact ⟨h1, ⟨by omega, by omega, fun r hr => by have := szs_mem hr; omega, by omega⟩, by omega, by omega⟩
def nextS (x : List Grp × Grp) : List Grp × Grp := (x.1, x.2.nextWay)
def openS (x : List Grp × Grp) : List Grp × Grp := (x.1 ++ [x.2], g0)
def closeS (x : List Grp × Grp) : List Grp × Grp := (x.1.dropLast, (x.1.getLast?.getD g0).put x.2.whole)
def repS (c : Nat) (x : List Grp × Grp) : List Grp × Grp := (x.1, x.2.rep c)
theorem palt (H : PS w0 w P s i d st) (hf : Fit st) : Calls Tryz.prog 107 #[ptr P] w fun e w' => e = .returned (.tuple #[]) ∧ PS w0 w' P s i d (st.map nextS) := by
 cases st with
 | none =>
  refine (alt_none w P s i _ d H.1).mono ?_
  rintro e w' ⟨rfl, rfl⟩
  exact ⟨rfl, H⟩
 | some x =>
  obtain ⟨lo, g⟩ := x
  obtain ⟨G, cap, h⟩ := H
  obtain ⟨h1, h2, _, _⟩ := hf.ok
  refine (alt_some w0 w P G cap s i d lo g h h2 (by omega)).mono ?_
  rintro e w' ⟨rfl, h3⟩
  exact ⟨rfl, G, cap, h3⟩
theorem pbegin {d : Nat} (H : PS w0 w P s i d st) (hf : Fit st) (hd : d ≤ 1000000) : Calls Tryz.prog 108 #[ptr P] w fun e w' => e = .returned (.tuple #[]) ∧ PS w0 w' P s i ((d + 1 : Nat) : Int) (st.map openS) := by
 cases st with
 | none =>
  refine (begin_none w P s i _ d H.1 hd).mono ?_
  rintro e w' ⟨rfl, h1, h2⟩
  exact ⟨rfl, H.kb_none h2 h1⟩
 | some x =>
  obtain ⟨lo, g⟩ := x
  obtain ⟨G, cap, h⟩ := H
  obtain ⟨h1, h2, _, _⟩ := hf.ok
  refine (begin_pi w0 w P G cap s i d (lo ++ [g]) h (by simp; omega) hd).mono ?_
  rintro e w' ⟨rfl, G', cap', h3⟩
  exact ⟨rfl, G', cap', h3⟩
theorem pend {d : Nat} (H : PS w0 w P s i ((d + 1 : Nat) : Int) st) (hf : Fit st) (hd : d ≤ 1000000) (hne : ∀ lo g, st = some (lo, g) → lo ≠ []) : Calls Tryz.prog 109 #[ptr P] w fun e w' => e = .returned (.tuple #[]) ∧ PS w0 w' P s i d (st.map closeS) := by
 cases st with
 | none =>
  refine (end_none w P s i _ d H.1 hd).mono ?_
  rintro e w' ⟨rfl, h1, h2⟩
  exact ⟨rfl, H.kb_none h2 h1⟩
 | some x =>
  obtain ⟨lo, g⟩ := x
  obtain ⟨G, cap, h⟩ := H
  obtain ⟨h1, h2, _, h4⟩ := hf.ok
  rcases List.eq_nil_or_concat lo with e | ⟨lo, b, rfl⟩
  ·exact absurd e (hne lo g rfl)
  ·rw [List.concat_eq_append] at *
   have hb : b.row.length ≤ 1000 := by
    have := szs_len b.row
    have h5 : b.size = szs b.ways + szs b.row := rfl
    rw [gsz_append, gsz_one] at h4
    omega
   refine (end_some w0 w P G cap s i d lo b g h h2 (by simp at h1; omega) hd hb).mono ?_
   rintro e w' ⟨rfl, h3⟩
   refine ⟨rfl, G, cap, ?_⟩
   have e1 : closeS (lo ++ [b], g) = (lo, b.put g.whole) := by unfold closeS; simp
   show PI w0 w' P G cap s i d ((closeS (lo ++ [b], g)).1 ++ [(closeS (lo ++ [b], g)).2])
   rw [e1]; exact h3
theorem prepeat (H : PS w0 w P s i d st) (hf : Fit st) (hi : i < s.size) (hs : s.size ≤ 1000000) (hne : ∀ lo g, st = some (lo, g) → g.row ≠ []) : Calls Tryz.prog 112 #[ptr P] w fun e w' => e = .returned (.tuple #[]) ∧ PS w0 w' P s (i + 1) d (st.map (repS (nx s.data.toList i))) := by
 cases st with
 | none =>
  refine (repeat_none w P s i _ d H.1 hi hs).mono ?_
  rintro e w' ⟨rfl, h1, h2⟩
  exact ⟨rfl, H.kb_none h2 h1⟩
 | some x =>
  obtain ⟨lo, g⟩ := x
  obtain ⟨G, cap, h⟩ := H
  obtain ⟨h1, h2, _, h4⟩ := hf.ok
  rcases List.eq_nil_or_concat g.row with e | ⟨rs, z, hz⟩
  ·exact absurd e (hne lo g rfl)
  ·rw [List.concat_eq_append] at hz
   refine (repeat_some w0 w P G cap s i d lo g rs z hz h h2 (by omega) hi hs).mono ?_
   rintro e w' ⟨rfl, h3⟩
   exact ⟨rfl, G, cap, h3⟩
theorem patom (H : PS w0 w P s i d st) (hf : Fit st) (hi : i ≤ s.size) (hs : s.size ≤ 1000000) : Calls Tryz.prog 113 #[ptr P] w (AtTo w0 P s i d st) := atom_any w0 w P s i d st H (fun lo g e => by
 subst e
 obtain ⟨h1, h2, _, _⟩ := hf.ok
 have := h2.row
 omega) hi hs
end

def RowNe (f : Bool) (g : Grp) : Prop := f = true → g.row ≠ []
def RdS (w0 : World) (P : Nat) (s : ByteArray) (k : Nat) (f : Bool) (wr : World) : Prop :=
 ∃ (i d : Nat) (st : Option (List Grp × Grp)), i ≤ s.size ∧ s.size + 1 ≤ k + i ∧ d ≤ i ∧ PS w0 wr P s i d st ∧ Fit st ∧
  (st = none → parseF s.data.toList = none) ∧ (∀ lo g, st = some (lo, g) → parseF s.data.toList = runF s.data.toList k i lo g f ∧ d = lo.length ∧ RowNe f g)
def BrS (w0 : World) (P : Nat) (s : ByteArray) (k : Nat) (f : Bool) (wr : World) : Prop :=
 ∃ (i d : Nat) (st : Option (List Grp × Grp)), i ≤ s.size ∧ s.size + 1 ≤ k + i ∧ d ≤ i ∧ PS w0 wr P s i d st ∧
  (st = none → parseF s.data.toList = none) ∧ (∀ lo g, st = some (lo, g) → parseF s.data.toList = (if heavy lo g = true then none else runF s.data.toList k i lo g f) ∧ d = lo.length ∧ RowNe f g ∧ lo.length ≤ 51 ∧ gsz (lo ++ [g]) ≤ 100000)
theorem weigh_br {w0 w : World} {P : Nat} {s : ByteArray} {k : Nat} {f : Bool} (H : BrS w0 P s k f w) (hs : s.size ≤ 1000000) : Calls Tryz.prog 114 #[ptr P] w fun e w' => e = .returned (.tuple #[]) ∧ RdS w0 P s k f w' := by
 obtain ⟨i, d, st, h1, h2, h3, h4, h5, h6⟩ := H
 cases st with
 | none =>
  refine (weigh_none w P s i d h4.1 (by omega)).mono ?_
  rintro e w' ⟨rfl, h7, h8⟩
  exact ⟨rfl, i, d, none, h1, h2, h3, h4.kb_none h8 h7, fun _ _ e => (by cases e), h5, fun _ _ e => (by cases e)⟩
 | some x =>
  obtain ⟨lo, g⟩ := x
  obtain ⟨a1, a2, a3, a4, a5⟩ := h6 lo g rfl
  obtain ⟨G, cap, h⟩ := h4
  refine (weigh_some w0 w P G cap s i d (lo ++ [g]) h a5 (by simp; omega) (by omega)).mono ?_
  rintro e w' ⟨rfl, h7, h8⟩
  refine ⟨rfl, ?_⟩
  by_cases hh : 400 < gsz (lo ++ [g]) ∨ 50 < d
  ·obtain ⟨h9, h10⟩ := h7 hh
   have hhv : heavy lo g = true := by unfold heavy; rw [← a2]; exact decide_eq_true hh
   rw [if_pos hhv] at a1
   have hPw : w0.heap.size ≤ P := by
    obtain ⟨ρ, vs, X, _⟩ := h
    exact X.lo (.inr rfl)
   exact ⟨i, d, none, h1, h2, h3, ⟨h9, hPw, h.bel.trans (h10.below h.bel.size (fun i he => by rw [show i = P from he]; exact hPw))⟩, fun _ _ e => (by cases e), fun _ => a1, fun _ _ e => (by cases e)⟩
  ·rw [h8 hh]
   have hhv : ¬ heavy lo g = true := by unfold heavy; rw [← a2]; intro e; exact hh (of_decide_eq_true e)
   rw [if_neg hhv] at a1
   refine ⟨i, d, some (lo, g), h1, h2, h3, ⟨G, cap, h⟩, fun lo' g' e => ?_, fun e => (by cases e), fun lo' g' e => ?_⟩
   ·injection e with e; injection e with e1 e2; subst e1; subst e2; omega
   ·injection e with e; injection e with e1 e2; subst e1; subst e2; exact ⟨a1, a2, a3⟩
theorem br_of_step {w0 w : World} {P : Nat} {s : ByteArray} {k i j d d' : Nat} {f f' : Bool} {st : Option (List Grp × Grp)} (F : List Grp × Grp → List Grp × Grp) (hk : s.size + 1 ≤ k + 1 + i) (hi : i < s.size) (hij : i < j) (hj : j ≤ s.size) (hd : d' ≤ j) (hst0 : st = none → parseF s.data.toList = none) (hst : ∀ lo g, st = some (lo, g) → parseF s.data.toList = runF s.data.toList (k + 1) i lo g f ∧ d = lo.length ∧ RowNe f g) (hf : Fit st)
  (hF : ∀ lo g, st = some (lo, g) → stepF s.data.toList i lo g f = some (j, (F (lo, g)).1, (F (lo, g)).2, f') ∧ d' = (F (lo, g)).1.length ∧ RowNe f' (F (lo, g)).2 ∧ (F (lo, g)).1.length ≤ lo.length + 1 ∧ gsz ((F (lo, g)).1 ++ [(F (lo, g)).2]) ≤ 100000)
  (H : PS w0 w P s j d' (st.map F)) : BrS w0 P s k f' w := by
 refine ⟨j, d', st.map F, hj, by omega, hd, H, fun e => hst0 (by cases st with | none => rfl | some x => simp at e), fun lo g e => ?_⟩
 cases st with
 | none => simp at e
 | some x =>
  obtain ⟨lo1, g1⟩ := x
  have e' : F (lo1, g1) = (lo, g) := by simpa using e
  obtain ⟨b1, b2, b3, b4, b5⟩ := hF lo1 g1 rfl
  obtain ⟨c1, c2, c3⟩ := hst lo1 g1 rfl
  rw [e'] at b1 b2 b3 b4 b5
  dsimp only at b1 b2 b3 b4 b5
  obtain ⟨d1, _⟩ := hf lo1 g1 rfl
  refine ⟨?_, b2, b3, by omega, b5⟩
  rw [c1]
  simp only [runF]
  rw [if_pos (by rw [← Lib.size_eq]; exact hi), b1]
end Go.Proofs.YtejdfpieblkapaaGreatDoor

/- Carried from another seat. -/
namespace Go.Proofs.YtejdfpieblkapaaGreatDoor
open Lib renaming hid → zh
open Go.RowKit Go.Shelf


theorem repF_size (r : Rx) (c : Nat) : (repF r c).size ≤ 2 * r.size + 2 := by
 unfold repF
 split
 ·show 1 + r.size ≤ _; omega
 ·split
  ·show 1 + r.size + (1 + r.size) ≤ _; omega
  ·show 1 + r.size + 1 ≤ _; have := r.size_pos; omega
theorem whole_size (g : Grp) : g.whole.size ≤ 2 * (szs g.ways + (2 * szs g.row + 1)) + 1 := by
 have h1 := orR_size (g.ways ++ [catR g.row])
 have h2 := catR_size g.row
 rw [szs_append, szs_cons, szs_nil] at h1
 show (orR (g.ways ++ [catR g.row])).size ≤ _
 omega
section
variable {lo : List Grp} {g : Grp} (h : Fit (some (lo, g)))
include h
theorem sz_next : gsz (lo ++ [g.nextWay]) ≤ 100000 := by
 obtain ⟨_, _, h3, h4⟩ := h.ok
 rw [gsz_append, gsz_one]
 have e : g.nextWay.size = szs (g.ways ++ [catR g.row]) + szs [] := rfl
 have e2 : g.size = szs g.ways + szs g.row := rfl
 have := catR_size g.row
 rw [e, szs_append, szs_cons, szs_nil]; omega
theorem sz_open : gsz (lo ++ [g] ++ [g0]) ≤ 100000 := by
 obtain ⟨_, _, h3, h4⟩ := h.ok
 rw [gsz_append, gsz_append, gsz_one, gsz_one]
 have e : g0.size = 0 := rfl
 omega
theorem sz_close : gsz (lo.dropLast ++ [(lo.getLast?.getD g0).put g.whole]) ≤ 100000 := by
 obtain ⟨_, _, h3, h4⟩ := h.ok
 have e2 : g.size = szs g.ways + szs g.row := rfl
 have h5 := whole_size g
 have e3 : ∀ b : Grp, (b.put g.whole).size = b.size + g.whole.size := fun b => by
  show szs b.ways + szs (b.row ++ [g.whole]) = szs b.ways + szs b.row + _
  rw [szs_append, szs_cons, szs_nil]; omega
 rw [gsz_append, gsz_one, e3]
 rcases List.eq_nil_or_concat lo with rfl | ⟨lo, b, rfl⟩
 ·have : g0.size = 0 := rfl
  simp [gsz]; omega
 ·rw [List.concat_eq_append] at h4 ⊢
  rw [gsz_append, gsz_one] at h4
  simp; omega
theorem sz_rep (c : Nat) : gsz (lo ++ [g.rep c]) ≤ 100000 := by
 obtain ⟨_, _, h3, h4⟩ := h.ok
 rw [gsz_append, gsz_one]
 have e2 : g.size = szs g.ways + szs g.row := rfl
 have e : (g.rep c).size = szs g.ways + szs (g.row.dropLast ++ [repF (g.row.getLast?.getD .empty) c]) := rfl
 have h5 := repF_size (g.row.getLast?.getD .empty) c
 rw [e, szs_append, szs_cons, szs_nil]
 rcases List.eq_nil_or_concat g.row with hr | ⟨rs, z, hr⟩
 ·rw [hr] at h5 ⊢
  have : Rx.empty.size = 1 := rfl
  simp only [List.getLast?_nil, Option.getD_none, List.dropLast_nil, szs_nil] at h5 ⊢
  omega
 ·rw [List.concat_eq_append] at hr
  rw [hr, szs_append, szs_cons, szs_nil] at e2
  rw [hr] at h5 ⊢
  simp only [List.getLast?_append, List.getLast?_singleton, Option.some_or, Option.getD_some, List.dropLast_concat] at h5 ⊢
  omega
theorem sz_put (t : Ws) : gsz (lo ++ [g.put (.set t)]) ≤ 100000 := by
 obtain ⟨_, _, h3, h4⟩ := h.ok
 rw [gsz_append, gsz_one]
 have e2 : g.size = szs g.ways + szs g.row := rfl
 have e : (g.put (.set t)).size = szs g.ways + szs (g.row ++ [.set t]) := rfl
 have e3 : (Rx.set t).size = 1 := rfl
 rw [e, szs_append, szs_cons, szs_nil]; omega
end
def RdPost (w0 : World) (P : Nat) (s : ByteArray) (e : Ending) (w' : World) : Prop :=
 (∃ g G cap i d, e = .returned (.bool true) ∧ PI w0 w' P G cap s i d [g] ∧ parseF s.data.toList = finF [] g ∧ g.Ok) ∨ (∃ i d, e = .returned (.bool true) ∧ PS w0 w' P s i d none ∧ parseF s.data.toList = none) ∨ (e = .returned (.bool false) ∧ parseF s.data.toList = none ∧ ∃ i d st, PS w0 w' P s i d st)

theorem none_of_step {s : ByteArray} {k i : Nat} {f : Bool} {st : Option (List Grp × Grp)} (hi : i < s.size) (hst0 : st = none → parseF s.data.toList = none) (hst : ∀ lo g, st = some (lo, g) → parseF s.data.toList = runF s.data.toList (k + 1) i lo g f ∧ stepF s.data.toList i lo g f = none) : parseF s.data.toList = none := by
 cases st with
 | none => exact hst0 rfl
 | some x =>
  obtain ⟨lo, g⟩ := x
  obtain ⟨h1, h2⟩ := hst lo g rfl
  rw [h1]
  simp only [runF]
  rw [if_pos (by rw [← Lib.size_eq]; exact hi), h2]

theorem read_end {w0 w1 : World} {P : Nat} {s : ByteArray} {k d : Nat} {f : Bool} {st : Option (List Grp × Grp)} (hk : 1 ≤ k) (hlen : s.data.toList.length = s.size) (HP : PS w0 w1 P s s.size d st) (HF : Fit st) (HN : st = none → parseF s.data.toList = none) (HS : ∀ lo g, st = some (lo, g) → parseF s.data.toList = runF s.data.toList k s.size lo g f ∧ d = lo.length ∧ RowNe f g) : RdPost w0 P s (.returned (.bool ((d : Int) == 0))) w1 := by
 have hd0 : ((d : Int) == 0) = decide (d = 0) := by
  rw [Bool.eq_iff_iff]; simp
 rw [hd0]
 cases st with
 | none =>
  by_cases hd : d = 0
  ·rw [decide_eq_true hd]
   exact .inr (.inl ⟨_, _, rfl, HP, HN rfl⟩)
  ·rw [decide_eq_false hd]
   exact .inr (.inr ⟨rfl, HN rfl, _, _, _, HP⟩)
 | some x =>
  obtain ⟨lo, g⟩ := x
  obtain ⟨a1, a2, a3⟩ := HS lo g rfl
  have hrun : parseF s.data.toList = finF lo g := by
   rw [a1]
   obtain ⟨k, rfl⟩ : ∃ m, k = m + 1 := ⟨k - 1, by omega⟩
   simp only [runF]
   rw [if_neg (by rw [hlen]; omega)]
  by_cases hd : d = 0
  ·rw [decide_eq_true hd]
   have hlo : lo = [] := List.length_eq_zero_iff.1 (by omega)
   subst hlo
   obtain ⟨G, cap, hpi⟩ := HP
   exact .inl ⟨g, G, cap, _, _, rfl, hpi, hrun, HF.ok.2.1⟩
  ·rw [decide_eq_false hd]
   have hlo : lo ≠ [] := fun e => hd (by rw [a2, e]; rfl)
   have hfn : parseF s.data.toList = none := by rw [hrun]; unfold finF; rw [if_neg hlo]
   exact .inr (.inr ⟨rfl, hfn, _, _, _, HP⟩)

set_option maxRecDepth 100000 in
set_option maxHeartbeats 4000000 in
theorem pread_any (w0 w : World) (P : Nat) (s : ByteArray) (H : PS w0 w P s 0 (0 : Nat) (some ([], g0))) (hs : s.size ≤ 1000000) :
  Calls Tryz.prog 73 #[ptr P] w (RdPost w0 P s) := by
 have hlen : s.data.toList.length = s.size := by rw [← Lib.size_eq]
 have h0 : RdS w0 P s (s.size + 1) false w := ⟨0, 0, some ([], g0), by omega, by omega, by omega, H, fun lo g e => by injection e with e; injection e with e1 e2; subst e1; subst e2; exact ⟨by simp, by decide⟩, fun e => (by cases e), fun lo g e => by injection e with e; injection e with e1 e2; subst e1; subst e2; exact ⟨by unfold parseF; rw [hlen], rfl, fun e => (by cases e)⟩⟩
 have H0 := zh h0
 have HLen := zh hlen
 clear H h0 hlen
 go_enter Tryz.func73, Tryz.ntmps73
 go_wp2_with fail
 go_loopg [3] (s.size + 1) (fun k v wr => ∃ f, v = .bool f ∧ Hid (RdS w0 P s k f wr))
 case atStart => exact ⟨false, rfl, H0.out⟩
 case round =>
  obtain ⟨f, rfl, HR⟩ := hrel
  obtain ⟨i, d, st, h1, h2, h3, h4, h5, h6, h7⟩ := HR.out
  obtain ⟨c0, c1, c3⟩ := h4.cells
  have HP0 := zh h4; have HF := zh h5; have HN := zh h6; have HS := zh h7
  clear h4 h5 h6 h7 HR H0
  rcases Nat.lt_or_ge i s.size with hlt | hge
  ·rcases gk with _ | gk
   ·omega
   have hii : (i : Int) < s.size := by omega
   go_wp2_with fail
   go_quiet (fail)
   have HP1 := zh (HP0.out.below (below_drewN _ wr nq))
   generalize wr.drewN nq = w1 at HP1 ⊢
   clear c0 c1 hii HP0
   go_wp2_with fail
   by_cases hA : nx s.data.toList i = 124
   ·refine (ptake_yes 124 HP1.out (by omega) hs hA (by omega)).mono ?_
    rintro e w2 ⟨rfl, hq⟩
    have HC := zh (palt hq HF.out)
    clear hq
    go_wp2_with fail
    refine HC.out.mono ?_
    rintro e w3 ⟨rfl, hq⟩
    have HB := zh (weigh_br (br_of_step (f := f) (f' := false) (d := d) (d' := d) nextS h2 hlt (j := i + 1) (by omega) (by omega) (by omega) HN.out HS.out HF.out (fun lo g e => ⟨by unfold stepF; rw [if_pos hA]; rfl, (HS.out lo g e).2.1, fun h => (by cases h), by show lo.length ≤ _; omega, sz_next (e ▸ HF.out)⟩) hq) hs)
    clear hq
    go_wp2_with fail
    refine HB.out.mono ?_
    rintro e wz ⟨rfl, hz'⟩
    have HZ := zh hz'
    clear hz'
    go_wp2
    go_roundg gk
    case rel => exact ⟨false, rfl, HZ.out⟩
    case measure => omega
   ·refine (ptake_no 124 HP1.out (by omega) hs hA).mono ?_
    rintro e w2 ⟨rfl, hq⟩
    have HP2 := zh hq
    clear hq HP1
    go_wp2_with fail
    by_cases hB : nx s.data.toList i = 40
    ·refine (ptake_yes 40 HP2.out (by omega) hs hB (by omega)).mono ?_
     rintro e w3 ⟨rfl, hq⟩
     have HC := zh (pbegin hq HF.out (by omega))
     clear hq
     go_wp2_with fail
     refine HC.out.mono ?_
     rintro e w4 ⟨rfl, hq⟩
     have HB := zh (weigh_br (br_of_step (f := f) (f' := false) (d := d) (d' := d + 1) openS h2 hlt (j := i + 1) (by omega) (by omega) (by omega) HN.out HS.out HF.out (fun lo g e => ⟨by unfold stepF; rw [if_neg hA, if_pos hB]; rfl, by show d + 1 = (lo ++ [g]).length; rw [(HS.out lo g e).2.1]; simp, fun h => (by cases h), by show (lo ++ [g]).length ≤ _; simp, sz_open (e ▸ HF.out)⟩) hq) hs)
     clear hq
     go_wp2_with fail
     refine HB.out.mono ?_
     rintro e wz ⟨rfl, hz'⟩
     have HZ := zh hz'
     clear hz'
     go_wp2
     go_roundg gk
     case rel => exact ⟨false, rfl, HZ.out⟩
     case measure => omega
    ·refine (ptake_no 40 HP2.out (by omega) hs hB).mono ?_
     rintro e w3 ⟨rfl, hq⟩
     have c3' := hq.cells.2.2
     have HP3 := zh hq
     clear hq HP2 c3
     by_cases hd : 0 < d
     ·have hdi : (0 : Int) < (d : Int) := by omega
      by_cases hC : nx s.data.toList i = 41
      ·obtain ⟨d1, rfl⟩ : ∃ d1, d = d1 + 1 := ⟨d - 1, by omega⟩
       have HT := zh (ptake_yes 41 HP3.out (by omega) hs hC (by omega))
       have hlone : ∀ lo g, st = some (lo, g) → lo ≠ [] := fun lo g e hl => by have := (HS.out lo g e).2.1; rw [hl] at this; simp at this
       have HLO := zh hlone
       generalize hdd : ((d1 + 1 : Nat) : Int) = dd at c3' hdi
       clear hlone
       go_wp2_with fail
       refine HT.out.mono ?_
       rintro e w4 ⟨rfl, hq⟩
       have HC := zh (pend hq HF.out (by omega) HLO.out)
       clear hq
       go_wp2_with fail
       refine HC.out.mono ?_
       rintro e w5 ⟨rfl, hq⟩
       have HB := zh (weigh_br (br_of_step (f := f) (f' := true) (d := d1 + 1) (d' := d1) closeS h2 hlt (j := i + 1) (by omega) (by omega) (by omega) HN.out HS.out HF.out (fun lo g e => ⟨by unfold stepF; rw [if_neg hA, if_neg hB, if_pos ⟨hC, HLO.out lo g e⟩]; rfl, by show d1 = lo.dropLast.length; rw [List.length_dropLast, ← (HS.out lo g e).2.1]; omega, fun _ => by show ((lo.getLast?.getD g0).row ++ [g.whole]) ≠ []; simp, by show lo.dropLast.length ≤ _; rw [List.length_dropLast]; omega, sz_close (e ▸ HF.out)⟩) hq) hs)
       clear hq
       go_wp2_with fail
       refine HB.out.mono ?_
       rintro e wz ⟨rfl, hz'⟩
       have HZ := zh hz'
       clear hz'
       go_wp2
       go_roundg gk
       case rel => exact ⟨true, rfl, HZ.out⟩
       case measure => omega
      ·have HT := zh (ptake_no 41 HP3.out (by omega) hs hC)
       go_wp2_with fail
       refine HT.out.mono ?_
       rintro e w4 ⟨rfl, hq⟩
       have HP4 := zh hq
       clear hq HP3 c3'
       by_cases hf : f = true
       ·subst hf
        have HNX := zh (pnext HP4.out (by omega) hs)
        have HI := zh (fun w' => indexByte_any REP (nx s.data.toList i) w')
        obtain ⟨ib, hib⟩ : ∃ ib, ib = Lib.indexByte REP.data.toList (nx s.data.toList i).toUInt8 := ⟨_, rfl⟩
        have hin : inS REP (nx s.data.toList i) = decide (0 ≤ ib) := by unfold inS; rw [hib]
        rw [← hib] at HI
        obtain ⟨x, hx⟩ : ∃ x, x = nx s.data.toList i := ⟨_, rfl⟩
        rw [← hx] at HNX HI
        have HIN := zh hin
        clear hib hin hx
        go_wp2_with fail
        refine HNX.out.mono ?_
        rintro e w5 ⟨rfl, hq⟩
        have HP5 := zh hq
        clear hq
        go_wp2_with fail
        refine (HI.out w5).mono ?_
        rintro e w6 ⟨rfl, rfl⟩
        by_cases hr : 0 ≤ ib
        ·have hin : inS REP (nx s.data.toList i) = true := by rw [HIN.out]; exact decide_eq_true hr
         have HC := zh (prepeat HP5.out HF.out hlt hs (fun lo g e => (HS.out lo g e).2.2 rfl))
         have HIN2 := zh hin
         clear hin
         go_wp2_with fail
         refine HC.out.mono ?_
         rintro e w7 ⟨rfl, hq⟩
         have HB := zh (weigh_br (br_of_step (f := true) (f' := true) (d := d) (d' := d) (repS (nx s.data.toList i)) h2 hlt (j := i + 1) (by omega) (by omega) (by omega) HN.out HS.out HF.out (fun lo g e => ⟨by unfold stepF; rw [if_neg hA, if_neg hB, if_neg (fun hh => hC hh.1), if_pos ⟨rfl, HIN2.out⟩]; rfl, (HS.out lo g e).2.1, fun _ => by show (g.row.dropLast ++ [_]) ≠ []; simp, by show lo.length ≤ _; omega, sz_rep (e ▸ HF.out) _⟩) hq) hs)
         clear hq
         go_wp2_with fail
         refine HB.out.mono ?_
         rintro e wz ⟨rfl, hz'⟩
         have HZ := zh hz'
         clear hz'
         go_wp2
         go_roundg gk
         case rel => exact ⟨true, rfl, HZ.out⟩
         case measure => omega
        ·have hin : ¬ inS REP (nx s.data.toList i) = true := by rw [HIN.out, decide_eq_false hr]; simp
         have HIN2 := zh hin
         clear hin
         have HC := zh (patom HP5.out HF.out (by omega) hs)
         go_wp2_with fail
         refine HC.out.mono ?_
         rintro e w8 hat
         rcases hat with ⟨t, j, ha, rfl, hq⟩ | ⟨ha, rfl, j, hj, hq⟩
         ·obtain ⟨aj1, aj2, _⟩ := atomF_ok ha (by omega)
          have HAA := zh ha
          clear ha
          have HB := zh (weigh_br (br_of_step (f := true) (f' := true) (d := d) (d' := d) (putS (.set t)) h2 hlt (j := j) (by omega) (by omega) (by omega) HN.out HS.out HF.out (fun lo g e => ⟨by unfold stepF; rw [if_neg hA, if_neg hB, if_neg (fun hh => hC hh.1), if_neg (fun hh => HIN2.out hh.2), HAA.out]; rfl, (HS.out lo g e).2.1, fun _ => by show (g.row ++ [_]) ≠ []; simp, by show lo.length ≤ _; omega, sz_put (e ▸ HF.out) _⟩) hq) hs)
          clear hq
          go_wp2_with fail
          refine HB.out.mono ?_
          rintro e wz ⟨rfl, hz'⟩
          have HZ := zh hz'
          clear hz'
          go_wp2
          go_roundg gk
          case rel => exact ⟨true, rfl, HZ.out⟩
          case measure => omega
         ·have HE := zh (none_of_step hlt HN.out (fun lo g e => ⟨(HS.out lo g e).1, by unfold stepF; rw [if_neg hA, if_neg hB, if_neg (fun hh => hC hh.1), if_neg (fun hh => HIN2.out hh.2), ha]; rfl⟩))
          have HQ := zh hq
          clear ha hq
          go_wp2
          go_ret
          exact .inr (.inr ⟨rfl, HE.out, j, d, st, HQ.out⟩)
       ·have hff : f = false := by cases f <;> simp_all
        subst hff
        clear hf
        have HC := zh (patom HP4.out HF.out (by omega) hs)
        go_wp2_with fail
        refine HC.out.mono ?_
        rintro e w8 hat
        rcases hat with ⟨t, j, ha, rfl, hq⟩ | ⟨ha, rfl, j, hj, hq⟩
        ·obtain ⟨aj1, aj2, _⟩ := atomF_ok ha (by omega)
         have HAA := zh ha
         clear ha
         have HB := zh (weigh_br (br_of_step (f := false) (f' := true) (d := d) (d' := d) (putS (.set t)) h2 hlt (j := j) (by omega) (by omega) (by omega) HN.out HS.out HF.out (fun lo g e => ⟨by unfold stepF; rw [if_neg hA, if_neg hB, if_neg (fun hh => hC hh.1), if_neg (fun hh => (by cases hh.1)), HAA.out]; rfl, (HS.out lo g e).2.1, fun _ => by show (g.row ++ [_]) ≠ []; simp, by show lo.length ≤ _; omega, sz_put (e ▸ HF.out) _⟩) hq) hs)
         clear hq
         go_wp2_with fail
         refine HB.out.mono ?_
         rintro e wz ⟨rfl, hz'⟩
         have HZ := zh hz'
         clear hz'
         go_wp2
         go_roundg gk
         case rel => exact ⟨true, rfl, HZ.out⟩
         case measure => omega
        ·have HE := zh (none_of_step hlt HN.out (fun lo g e => ⟨(HS.out lo g e).1, by unfold stepF; rw [if_neg hA, if_neg hB, if_neg (fun hh => hC hh.1), if_neg (fun hh => (by cases hh.1)), ha]; rfl⟩))
         have HQ := zh hq
         clear ha hq
         go_wp2
         go_ret
         exact .inr (.inr ⟨rfl, HE.out, j, d, st, HQ.out⟩)
     ·obtain rfl : d = 0 := by omega
      have c3z : w3.cell? ⟨P, 3, none⟩ = some (.int .i64 0) := c3'
      clear c3'
      by_cases hf : f = true
      ·subst hf
       have HNX := zh (pnext HP3.out (by omega) hs)
       have HI := zh (fun w' => indexByte_any REP (nx s.data.toList i) w')
       obtain ⟨ib, hib⟩ : ∃ ib, ib = Lib.indexByte REP.data.toList (nx s.data.toList i).toUInt8 := ⟨_, rfl⟩
       have hin : inS REP (nx s.data.toList i) = decide (0 ≤ ib) := by unfold inS; rw [hib]
       rw [← hib] at HI
       obtain ⟨x, hx⟩ : ∃ x, x = nx s.data.toList i := ⟨_, rfl⟩
       rw [← hx] at HNX HI
       have HIN := zh hin
       clear hib hin hx
       go_wp2_with fail
       refine HNX.out.mono ?_
       rintro e w5 ⟨rfl, hq⟩
       have HP5 := zh hq
       clear hq
       go_wp2_with fail
       refine (HI.out w5).mono ?_
       rintro e w6 ⟨rfl, rfl⟩
       by_cases hr : 0 ≤ ib
       ·have hin : inS REP (nx s.data.toList i) = true := by rw [HIN.out]; exact decide_eq_true hr
        have HC := zh (prepeat HP5.out HF.out hlt hs (fun lo g e => (HS.out lo g e).2.2 rfl))
        have HIN2 := zh hin
        clear hin
        go_wp2_with fail
        refine HC.out.mono ?_
        rintro e w7 ⟨rfl, hq⟩
        have HB := zh (weigh_br (br_of_step (f := true) (f' := true) (d := 0) (d' := 0) (repS (nx s.data.toList i)) h2 hlt (j := i + 1) (by omega) (by omega) (by omega) HN.out HS.out HF.out (fun lo g e => ⟨by unfold stepF; rw [if_neg hA, if_neg hB, if_neg (fun hh => by have := (HS.out lo g e).2.1; exact hh.2 (List.length_eq_zero_iff.1 (by omega))), if_pos ⟨rfl, HIN2.out⟩]; rfl, (HS.out lo g e).2.1, fun _ => by show (g.row.dropLast ++ [_]) ≠ []; simp, by show lo.length ≤ _; omega, sz_rep (e ▸ HF.out) _⟩) hq) hs)
        clear hq
        go_wp2_with fail
        refine HB.out.mono ?_
        rintro e wz ⟨rfl, hz'⟩
        have HZ := zh hz'
        clear hz'
        go_wp2
        go_roundg gk
        case rel => exact ⟨true, rfl, HZ.out⟩
        case measure => omega
       ·have hin : ¬ inS REP (nx s.data.toList i) = true := by rw [HIN.out, decide_eq_false hr]; simp
        have HIN2 := zh hin
        clear hin
        have HC := zh (patom HP5.out HF.out (by omega) hs)
        go_wp2_with fail
        refine HC.out.mono ?_
        rintro e w8 hat
        rcases hat with ⟨t, j, ha, rfl, hq⟩ | ⟨ha, rfl, j, hj, hq⟩
        ·obtain ⟨aj1, aj2, _⟩ := atomF_ok ha (by omega)
         have HAA := zh ha
         clear ha
         have HB := zh (weigh_br (br_of_step (f := true) (f' := true) (d := 0) (d' := 0) (putS (.set t)) h2 hlt (j := j) (by omega) (by omega) (by omega) HN.out HS.out HF.out (fun lo g e => ⟨by unfold stepF; rw [if_neg hA, if_neg hB, if_neg (fun hh => by have := (HS.out lo g e).2.1; exact hh.2 (List.length_eq_zero_iff.1 (by omega))), if_neg (fun hh => HIN2.out hh.2), HAA.out]; rfl, (HS.out lo g e).2.1, fun _ => by show (g.row ++ [_]) ≠ []; simp, by show lo.length ≤ _; omega, sz_put (e ▸ HF.out) _⟩) hq) hs)
         clear hq
         go_wp2_with fail
         refine HB.out.mono ?_
         rintro e wz ⟨rfl, hz'⟩
         have HZ := zh hz'
         clear hz'
         go_wp2
         go_roundg gk
         case rel => exact ⟨true, rfl, HZ.out⟩
         case measure => omega
        ·have HE := zh (none_of_step hlt HN.out (fun lo g e => ⟨(HS.out lo g e).1, by unfold stepF; rw [if_neg hA, if_neg hB, if_neg (fun hh => by have := (HS.out lo g e).2.1; exact hh.2 (List.length_eq_zero_iff.1 (by omega))), if_neg (fun hh => HIN2.out hh.2), ha]; rfl⟩))
         have HQ := zh hq
         clear ha hq
         go_wp2
         go_ret
         exact .inr (.inr ⟨rfl, HE.out, j, 0, st, HQ.out⟩)
      ·have hff : f = false := by cases f <;> simp_all
       subst hff
       clear hf
       have HC := zh (patom HP3.out HF.out (by omega) hs)
       go_wp2_with fail
       refine HC.out.mono ?_
       rintro e w8 hat
       rcases hat with ⟨t, j, ha, rfl, hq⟩ | ⟨ha, rfl, j, hj, hq⟩
       ·obtain ⟨aj1, aj2, _⟩ := atomF_ok ha (by omega)
        have HAA := zh ha
        clear ha
        have HB := zh (weigh_br (br_of_step (f := false) (f' := true) (d := 0) (d' := 0) (putS (.set t)) h2 hlt (j := j) (by omega) (by omega) (by omega) HN.out HS.out HF.out (fun lo g e => ⟨by unfold stepF; rw [if_neg hA, if_neg hB, if_neg (fun hh => by have := (HS.out lo g e).2.1; exact hh.2 (List.length_eq_zero_iff.1 (by omega))), if_neg (fun hh => (by cases hh.1)), HAA.out]; rfl, (HS.out lo g e).2.1, fun _ => by show (g.row ++ [_]) ≠ []; simp, by show lo.length ≤ _; omega, sz_put (e ▸ HF.out) _⟩) hq) hs)
        clear hq
        go_wp2_with fail
        refine HB.out.mono ?_
        rintro e wz ⟨rfl, hz'⟩
        have HZ := zh hz'
        clear hz'
        go_wp2
        go_roundg gk
        case rel => exact ⟨true, rfl, HZ.out⟩
        case measure => omega
       ·have HE := zh (none_of_step hlt HN.out (fun lo g e => ⟨(HS.out lo g e).1, by unfold stepF; rw [if_neg hA, if_neg hB, if_neg (fun hh => by have := (HS.out lo g e).2.1; exact hh.2 (List.length_eq_zero_iff.1 (by omega))), if_neg (fun hh => (by cases hh.1)), ha]; rfl⟩))
        have HQ := zh hq
        clear ha hq
        go_wp2
        go_ret
        exact .inr (.inr ⟨rfl, HE.out, j, 0, st, HQ.out⟩)
  ·obtain rfl : i = s.size := by omega
   have hii : ¬ (s.size : Int) < s.size := by omega
   have hfu : 1 ≤ gk := by omega
   go_wp2_with fail
   go_quiet (fail)
   have HP1 := zh (HP0.out.below (below_drewN _ wr nq))
   generalize wr.drewN nq = w1 at HP1 ⊢
   have d3 := HP1.out.cells.2.2
   clear c0 c1 c3 hii HP0
   have hout : RdPost w0 P s (.returned (.bool ((d : Int) == 0))) w1 := read_end hfu HLen.out HP1.out HF.out HN.out HS.out
   have HOUT := zh hout
   clear hout HN HS HF HP1
   go_wp2
   go_ret
   exact HOUT.out
end Go.Proofs.YtejdfpieblkapaaGreatDoor

/- Carried from another seat. -/
namespace Go.Proofs.YtejdfpieblkapaaGreatDoor
open Lib renaming hid → zh
open Go.RowKit Go.Shelf


def PaTo (s : ByteArray) (w : World) (e : Ending) (w' : World) : Prop :=
 Below w.heap.size w w' ∧ ((∃ r nb, parseF s.data.toList = some r ∧ r.size ≤ 400 ∧ e = .returned (.tuple #[ptr nb, .int .i64 0, .int .i64 0]) ∧ NdAt w' r nb ∧ NdQ w' (fun k => w.heap.size ≤ k) r nb) ∨ (parseF s.data.toList = none ∧ ∃ (p c : Int), c ≠ 0 ∧ e = .returned (.tuple #[.pointer none, .int .i64 p, .int .i64 c])))
theorem finF_one (g : Grp) : finF [] g = if g.whole.size ≤ 400 then some g.whole else none := by unfold finF; rw [if_pos rfl]

theorem ps_start (w : World) (s : ByteArray) (w1 : World) (hb : Below w.heap.size w w1) (h1 : w1.heap[w.heap.size]? = some (.cells #[.slice none 0 0, .slice none 0 0] 168 (0, 0))) (h2 : w1.heap[w.heap.size + 1]? = some (.cells #[.string s, .int .i64 0, .slice (some ⟨w.heap.size, 0, none⟩) 1 1, .int .i64 0, .bool false] 123 (0, 0))) : PS w w1 (w.heap.size + 1) s 0 (0 : Nat) (some ([], g0)) := by
 refine ⟨w.heap.size, 1, fun i => if i = w.heap.size then 2 else if i = w.heap.size + 1 then 1 else if i < w.heap.size then 1 else 0, [.slice none 0 0, .slice none 0 0], ⟨h2, ⟨rfl, .inr ⟨w.heap.size, 1, _, rfl, Nat.zero_le _, h1, Nat.le_refl _, by unfold maxLen; omega, rfl, rfl⟩⟩, rfl, fun c v rs a1 a2 _ => ?_, by simp, by simp, fun i hi => ?_, hb⟩, fun i hi => ?_⟩
 ·have hc : c = 0 ∨ c = 1 := by
   have := (List.getElem?_eq_some_iff.1 a1).1
   simp at this; omega
  rcases hc with rfl | rfl
  ·have e1 : Value.slice none 0 0 = v := by simpa using a1
   have e2 : ([] : List Rx) = rs := by simpa [flatG, g0] using a2
   subst e1; subst e2
   exact RwAt.nil _ _ _
  ·have e1 : Value.slice none 0 0 = v := by simpa using a1
   have e2 : ([] : List Rx) = rs := by simpa [flatG, g0] using a2
   subst e1; subst e2
   exact RwAt.nil _ _ _
 ·refine ⟨?_, by omega⟩
  show (if i = w.heap.size then 2 else if i = w.heap.size + 1 then 1 else if i < w.heap.size then 1 else 0) = 1
  rw [if_neg (by omega), if_neg (by omega), if_pos hi]
 ·have := lt_of_heap h2
  simp only []
  rw [if_neg (by omega), if_neg (by omega), if_neg (by omega)]

theorem run_mk52 (w : World) : (Instr.makeSlice 121 (.int .i64 1) (.int .i64 1)).run Tryz.prog w = .ok (.slice (some ⟨w.heap.size, 0, none⟩) 1 1) (w.alloc (.cells #[.slice none 0 0, .slice none 0 0] 168)) := by
 obtain ⟨i, hi, hz, hsz, hby⟩ := info_parts Tryz.info168
 have h := run_makeSlice (P := Tryz.prog) w 121 168 i _ Tryz.underlying121 hi hz .i64 .i64 1 1 (by omega) (by omega) (by rw [hsz]; decide) (by rw [hby]; decide) (by omega)
 have e : madeCells (Value.agg #[.slice none 0 0, .slice none 0 0]).cells (Int.toNat 1 * 2) = #[.slice none 0 0, .slice none 0 0] := by kernel_rfl
 rw [h, hsz, e]; rfl
set_option maxRecDepth 100000 in
set_option maxHeartbeats 4000000 in
theorem parse_any (s : ByteArray) (w : World) (hs : s.size ≤ 1000000) : Calls Tryz.prog 45 #[.string s] w (PaTo s w) := by
 have hmk := run_mk52 w
 have hb2 : Below w.heap.size w ((w.alloc (.cells #[.slice none 0 0, .slice none 0 0] 168)).alloc (.cells #[.string s, .int .i64 0, .slice (some ⟨w.heap.size, 0, none⟩) 1 1, .int .i64 0, .bool false] 123)) := ((Below.refl _ w).alloc (Nat.le_refl _) _).alloc (by simp) _
 have hps := ps_start w s _ hb2 ((Below.heap_alloc _ _ _ (by simp)).trans (heap_alloc_new w _)) (heap_alloc2_new w _ _)
 have HR := zh (pread_any w _ (w.heap.size + 1) s hps hs)
 clear hb2 hps
 go_enter Tryz.func45, Tryz.ntmps45
 go_wp2_with fail
 refine HR.out.mono ?_
 rintro e w1 hpost
 rcases hpost with ⟨g, G, cap, i, d, rfl, hpi, hfin, hok⟩ | ⟨i, d, rfl, hp, hnone⟩ | ⟨rfl, hnone, i, d, st, hp⟩
 ·obtain ⟨_, _, _, _, c4, _⟩ := ps_cells hpi.ps
  have HL := zh (last_ps w1 (w.heap.size + 1) G [g].length 0 cap s i d hpi.ps rfl (by omega))
  have HPI := zh hpi; have HOK := zh hok; have HFI := zh hfin
  clear hpi hok hfin
  go_wp2_with fail
  refine HL.out.mono ?_
  rintro e w2 ⟨rfl, hb2⟩
  have HW := zh (whole_any w w2 (w.heap.size + 1) G cap s i d [] g (HPI.out.below hb2) HOK.out)
  clear hb2
  go_wp2_with fail
  refine HW.out.mono ?_
  rintro e w3 ⟨nb, rfl, ρ, vs, X1, X2, X3⟩
  obtain ⟨sz, _, hbl⟩ := nd_size X3.nd
  have HB := zh X1.bel; have HN := zh X3.nd
  have HNQ := zh (X3.mono (Q' := fun k => w.heap.size ≤ k) (fun k _ hk => X1.lo (.inl (by rw [hk]; omega))))
  have hfin := HFI.out
  rw [finF_one] at hfin
  obtain ⟨z, hz⟩ : ∃ z, z = g.whole.size := ⟨_, rfl⟩
  rw [← hz] at sz hfin
  clear X1 X2 X3
  by_cases h4 : z ≤ 400
  ·have h4i : ¬ (400 : Int) < (z : Int) := by omega
   rw [if_pos h4] at hfin
   have HFn := zh hfin
   have HZ := zh (show g.whole.size ≤ 400 by omega)
   clear hfin hz
   go_wp2_with fail
   refine bodyPost_ret (results_tmp3 rfl _ _ _) rfl ?_
   exact ⟨HB.out, .inl ⟨_, nb, HFn.out, HZ.out, rfl, HN.out, HNQ.out⟩⟩
  ·have h4i : (400 : Int) < (z : Int) := by omega
   rw [if_neg h4] at hfin
   have HFn := zh hfin
   clear hfin hz
   go_wp2_with fail
   refine bodyPost_ret (results_tmp3 rfl _ _ _) rfl ?_
   exact ⟨HB.out, .inr ⟨HFn.out, 0, 3, by omega, rfl⟩⟩
 ·obtain ⟨_, _, _, _, c4, _⟩ := ps_cells hp.1
  have HB := zh hp.bel; have HN := zh hnone
  clear hp hnone
  go_wp2_with fail
  refine bodyPost_ret (results_tmp3 rfl _ _ _) rfl ?_
  exact ⟨HB.out, .inr ⟨HN.out, 0, 3, by omega, rfl⟩⟩
 ·obtain ⟨_, c1, _⟩ := hp.cells
  have HB := zh hp.bel; have HN := zh hnone
  clear hp hnone
  go_wp2_with fail
  go_quiet (fail)
  go_wp2_with fail
  refine bodyPost_ret (results_tmp3 rfl _ _ _) rfl ?_
  exact ⟨HB.out.trans (below_drewN _ _ _), .inr ⟨HN.out, i, 4, by omega, rfl⟩⟩
end Go.Proofs.YtejdfpieblkapaaGreatDoor

/- Carried from another seat. -/
namespace Go.Proofs.YtejdfpieblkapaaGreatDoor
open Go.RowKit Go.Shelf


def Rx.dv (c : UInt8) : Rx → Rx
 | .set s => if s.has c = true then .empty else Rx.none'
 | .empty => Rx.none'
 | .cat a b => if a.nul = true then .or (.cat (a.dv c) b) (b.dv c) else .cat (a.dv c) b
 | .or a b => .or (a.dv c) (b.dv c)
 | .star a => .cat (a.dv c) (.star a)
theorem none_L (u : List UInt8) : ¬ Rx.none'.L u := by
 rintro ⟨c, _, hc⟩
 have h : Ws.hasN ⟨0, 0, 0, 0⟩ c.toNat = true := hc
 unfold Ws.hasN Ws.word at h
 split at h <;> simp at h
theorem Rx.nul_iff : ∀ r : Rx, r.nul = true ↔ r.L []
 | .set s => ⟨fun h => by simp [Rx.nul] at h, fun ⟨c, h, _⟩ => by simp at h⟩
 | .empty => ⟨fun _ => rfl, fun _ => rfl⟩
 | .cat a b => by
  show (a.nul && b.nul) = true ↔ ∃ x y, [] = x ++ y ∧ a.L x ∧ b.L y
  rw [Bool.and_eq_true, a.nul_iff, b.nul_iff]
  refine ⟨fun h => ⟨[], [], rfl, h.1, h.2⟩, fun ⟨x, y, h, h1, h2⟩ => ?_⟩
  have h' := List.append_eq_nil_iff.1 h.symm
  rw [h'.1] at h1; rw [h'.2] at h2
  exact ⟨h1, h2⟩
 | .or a b => by
  show (a.nul || b.nul) = true ↔ a.L [] ∨ b.L []
  rw [Bool.or_eq_true, a.nul_iff, b.nul_iff]
 | .star a => ⟨fun _ => Many.nil, fun _ => rfl⟩
theorem many_cons {P : List UInt8 → Prop} {c : UInt8} {u : List UInt8} : Many P (c :: u) ↔ ∃ x y, u = x ++ y ∧ P (c :: x) ∧ Many P y := by
 constructor
 ·intro h
  generalize hv : c :: u = v at h
  induction h with
  | nil => cases hv
  | cons x y hx hy ih =>
   cases x with
   | nil => exact ih hv
   | cons d x =>
    injection hv with e1 e2
    subst e1
    exact ⟨x, y, e2, hx, hy⟩
 ·rintro ⟨x, y, rfl, h1, h2⟩
  exact Many.cons (c :: x) y h1 h2
theorem Rx.dv_iff (c : UInt8) : ∀ (r : Rx) (u : List UInt8), (r.dv c).L u ↔ r.L (c :: u)
 | .set s, u => by
  show (if s.has c = true then Rx.empty else Rx.none').L u ↔ _
  split
  ·rename_i h
   refine ⟨fun (hu : u = []) => ⟨c, by rw [hu], h⟩, fun ⟨d, hd, _⟩ => ?_⟩
   injection hd
  ·rename_i h
   refine ⟨fun hu => absurd hu (none_L u), fun ⟨d, hd, hs⟩ => ?_⟩
   injection hd with e1 e2
   rw [← e1] at hs
   exact absurd hs h
 | .empty, u => ⟨fun hu => absurd hu (none_L u), fun h => by cases h⟩
 | .cat a b, u => by
  have key : (∃ x y, u = x ++ y ∧ (a.dv c).L x ∧ b.L y) ↔ ∃ x y, u = x ++ y ∧ a.L (c :: x) ∧ b.L y := by simp only [a.dv_iff c]
  have h2 : (Rx.cat a b).L (c :: u) ↔ (a.L [] ∧ b.L (c :: u)) ∨ ∃ x y, u = x ++ y ∧ a.L (c :: x) ∧ b.L y := by
   constructor
   ·rintro ⟨x, y, h, h1, h2⟩
    cases x with
    | nil => exact .inl ⟨h1, by rw [h]; exact h2⟩
    | cons d x =>
     injection h with e1 e2
     subst e1
     exact .inr ⟨x, y, e2, h1, h2⟩
   ·rintro (⟨h1, h2⟩ | ⟨x, y, rfl, h1, h2⟩)
    ·exact ⟨[], _, rfl, h1, h2⟩
    ·exact ⟨c :: x, y, rfl, h1, h2⟩
  rw [h2]
  show (if a.nul = true then Rx.or (.cat (a.dv c) b) (b.dv c) else .cat (a.dv c) b).L u ↔ _
  split
  ·rename_i h
   show ((∃ x y, u = x ++ y ∧ (a.dv c).L x ∧ b.L y) ∨ (b.dv c).L u) ↔ _
   rw [key, b.dv_iff c]
   have := a.nul_iff.1 h
   constructor
   ·rintro (h | h)
    ·exact .inr h
    ·exact .inl ⟨this, h⟩
   ·rintro (h | h)
    ·exact .inr h.2
    ·exact .inl h
  ·rename_i h
   show (∃ x y, u = x ++ y ∧ (a.dv c).L x ∧ b.L y) ↔ _
   rw [key]
   refine ⟨.inr, fun h' => h'.elim (fun h' => absurd (a.nul_iff.2 h'.1) h) id⟩
 | .or a b, u => by
  show (a.dv c).L u ∨ (b.dv c).L u ↔ a.L (c :: u) ∨ b.L (c :: u)
  rw [a.dv_iff c, b.dv_iff c]
 | .star a, u => by
  show (∃ x y, u = x ++ y ∧ (a.dv c).L x ∧ Many a.L y) ↔ Many a.L (c :: u)
  rw [many_cons]
  simp only [a.dv_iff c]
def Rx.mt : Rx → List UInt8 → Bool
 | r, [] => r.nul
 | r, c :: u => (r.dv c).mt u
theorem Rx.mt_iff (r : Rx) (u : List UInt8) : r.mt u = true ↔ r.L u := by
 induction u generalizing r with
 | nil => exact r.nul_iff
 | cons c u ih =>
  show (r.dv c).mt u = true ↔ _
  rw [ih, Rx.dv_iff]
end Go.Proofs.YtejdfpieblkapaaGreatDoor
