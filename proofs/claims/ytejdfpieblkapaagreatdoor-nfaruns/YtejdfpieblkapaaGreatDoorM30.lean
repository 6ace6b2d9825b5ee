/- Carried from another seat. -/
import Derived.Test.YtejdfpieblkapaaGreatDoorM25
import Derived.OwnWalk
namespace Go.Proofs.YtejdfpieblkapaaGreatDoor
open Go.RowKit Go.Shelf

theorem Tryz.info68 : (Tryz.prog.info? 68).map (fun i => (i.zero, i.size, i.bytes)) = some (some (.pointer none), 1, 8) := by kernel_rfl
end Go.Proofs.YtejdfpieblkapaaGreatDoor

/- Carried from another seat. -/
namespace Go.Proofs.YtejdfpieblkapaaGreatDoor
open Go.RowKit Go.Shelf


attribute [local go_sem] Oper.semAt_some

/-- A node, all of whose blocks are of a kind. -/
def NdQ (w : World) (Q : Nat → Prop) : Rx → Nat → Prop
  | .set s, b => NdB w (.set s) b (.slice none 0 0) ∧ Q b
  | .empty, b => NdB w .empty b (.slice none 0 0) ∧ Q b
  | .cat x y, b => ∃ g bx bY, NdB w (.cat x y) b (.slice (some ⟨g, 0, none⟩) 2 2) ∧ w.heap[g]? = some (.cells #[ptr bx, ptr bY] 68 (0, 0)) ∧ NdQ w Q x bx ∧ NdQ w Q y bY ∧ Q b ∧ Q g
  | .or x y, b => ∃ g bx bY, NdB w (.or x y) b (.slice (some ⟨g, 0, none⟩) 2 2) ∧ w.heap[g]? = some (.cells #[ptr bx, ptr bY] 68 (0, 0)) ∧ NdQ w Q x bx ∧ NdQ w Q y bY ∧ Q b ∧ Q g
  | .star x, b => ∃ g bx, NdB w (.star x) b (.slice (some ⟨g, 0, none⟩) 1 1) ∧ w.heap[g]? = some (.cells #[ptr bx] 68 (0, 0)) ∧ NdQ w Q x bx ∧ Q b ∧ Q g
theorem NdQ.nd {w : World} {Q : Nat → Prop} : ∀ {r : Rx} {b : Nat}, NdQ w Q r b → NdAt w r b
  | .set _, _, h => h.1
  | .empty, _, h => h.1
  | .cat _ _, _, ⟨g, bx, bY, h1, h2, h3, h4, _⟩ => ⟨g, bx, bY, h1, h2, h3.nd, h4.nd⟩
  | .or _ _, _, ⟨g, bx, bY, h1, h2, h3, h4, _⟩ => ⟨g, bx, bY, h1, h2, h3.nd, h4.nd⟩
  | .star _, _, ⟨g, bx, h1, h2, h3, _⟩ => ⟨g, bx, h1, h2, h3.nd⟩
theorem NdQ.mono {w : World} {Q Q' : Nat → Prop} (hq : ∀ i, i < w.heap.size → Q i → Q' i) : ∀ {r : Rx} {b : Nat}, NdQ w Q r b → NdQ w Q' r b
  | .set _s, b, ⟨h, hb⟩ => ⟨h, hq b (lt_of_heap (show w.heap[b]? = _ from h)) hb⟩
  | .empty, b, ⟨h, hb⟩ => ⟨h, hq b (lt_of_heap (show w.heap[b]? = _ from h)) hb⟩
  | .cat _ _, b, ⟨g, bx, bY, h1, h2, h3, h4, h5, h6⟩ => ⟨g, bx, bY, h1, h2, h3.mono hq, h4.mono hq, hq b (lt_of_heap (show w.heap[b]? = _ from h1)) h5, hq g (lt_of_heap h2) h6⟩
  | .or _ _, b, ⟨g, bx, bY, h1, h2, h3, h4, h5, h6⟩ => ⟨g, bx, bY, h1, h2, h3.mono hq, h4.mono hq, hq b (lt_of_heap (show w.heap[b]? = _ from h1)) h5, hq g (lt_of_heap h2) h6⟩
  | .star _, b, ⟨g, bx, h1, h2, h3, h5, h6⟩ => ⟨g, bx, h1, h2, h3.mono hq, hq b (lt_of_heap (show w.heap[b]? = _ from h1)) h5, hq g (lt_of_heap h2) h6⟩
/-- Blocks of a kind stand as they stood. -/
def KeepQ (Q : Nat → Prop) (w w' : World) : Prop := ∀ (k : Nat) (cs : Array Value) (t : TypeId) (fz : Nat × Nat), Q k → w.heap[k]? = some (Obj.cells cs t fz) → w'.heap[k]? = some (Obj.cells cs t fz)
theorem NdQ.keep {w w' : World} {Q : Nat → Prop} (hk : KeepQ Q w w') : ∀ {r : Rx} {b : Nat}, NdQ w Q r b → NdQ w' Q r b
  | .set _, _b, ⟨h, hb⟩ => ⟨hk _ _ _ _ hb h, hb⟩
  | .empty, _b, ⟨h, hb⟩ => ⟨hk _ _ _ _ hb h, hb⟩
  | .cat _ _, _b, ⟨g, bx, bY, h1, h2, h3, h4, h5, h6⟩ => ⟨g, bx, bY, hk _ _ _ _ h5 h1, hk _ _ _ _ h6 h2, h3.keep hk, h4.keep hk, h5, h6⟩
  | .or _ _, _b, ⟨g, bx, bY, h1, h2, h3, h4, h5, h6⟩ => ⟨g, bx, bY, hk _ _ _ _ h5 h1, hk _ _ _ _ h6 h2, h3.keep hk, h4.keep hk, h5, h6⟩
  | .star _, _b, ⟨g, bx, h1, h2, h3, h5, h6⟩ => ⟨g, bx, hk _ _ _ _ h5 h1, hk _ _ _ _ h6 h2, h3.keep hk, h5, h6⟩
theorem KeepQ.below {Q : Nat → Prop} {w w' : World} (h : Below w.heap.size w w') : KeepQ Q w w' := fun k _ _ _ _ hk => (h.block k (lt_of_heap hk)).trans hk
theorem KeepQ.kb {Q ex : Nat → Prop} {w w' : World} (h : Kb ex w w') (hx : ∀ i, Q i → ¬ ex i) : KeepQ Q w w' := fun k _ _ _ hq hk => (h.block k (lt_of_heap hk) (hx k hq)).trans hk
theorem KeepO.q {Q : Nat → Prop} {B : Nat} {w w' : World} (h : KeepO B w w') (hq : ∀ i, Q i → i ≠ B) : KeepQ Q w w' := fun k cs t fz hk hh => h k cs t fz (hq k hk) hh
/-- Nodes at addresses, all of a kind. -/
def NdsQ (w : World) (Q : Nat → Prop) (rs : List Rx) (bs : List Nat) : Prop := rs.length = bs.length ∧ ∀ (i : Nat) (r : Rx) (b : Nat), rs[i]? = some r → bs[i]? = some b → NdQ w Q r b
theorem NdsQ.keep {w w' : World} {Q : Nat → Prop} {rs : List Rx} {bs : List Nat} (h : NdsQ w Q rs bs) (hk : KeepQ Q w w') : NdsQ w' Q rs bs := ⟨h.1, fun i r b h1 h2 => (h.2 i r b h1 h2).keep hk⟩
theorem NdsQ.mono {w : World} {Q Q' : Nat → Prop} {rs : List Rx} {bs : List Nat} (h : NdsQ w Q rs bs) (hq : ∀ i, i < w.heap.size → Q i → Q' i) : NdsQ w Q' rs bs := ⟨h.1, fun i r b h1 h2 => (h.2 i r b h1 h2).mono hq⟩
theorem NdsQ.nds {w : World} {Q : Nat → Prop} {rs : List Rx} {bs : List Nat} (h : NdsQ w Q rs bs) : NdsAt w rs bs := ⟨h.1, fun i r b h1 h2 => (h.2 i r b h1 h2).nd⟩

/-- A node is answered, of these blocks and new ones. -/
def NewQ (Q : Nat → Prop) (r : Rx) (w : World) (e : Ending) (w' : World) : Prop := ∃ nb, e = .returned (ptr nb) ∧ NdQ w' (fun i => Q i ∨ w.heap.size ≤ i) r nb ∧ Below w.heap.size w w'
theorem NewQ.wider {Q : Nat → Prop} {r : Rx} {w w1 : World} {e : Ending} {w' : World} (h : NewQ (fun i => Q i ∨ w.heap.size ≤ i) r w1 e w') (hb : Below w.heap.size w w1) : NewQ Q r w e w' := by
  obtain ⟨nb, h1, h2, h3⟩ := h
  have := hb.size
  exact ⟨nb, h1, h2.mono (fun i _ hi => by rcases hi with (hi | hi) | hi <;> first | exact .inl hi | exact .inr (by omega)), below_tr hb h3 hb.size⟩
theorem empty_q (Q : Nat → Prop) (w : World) : Calls Tryz.prog 153 #[] w (NewQ Q .empty w) := by
  go_enter Tryz.func153, Tryz.ntmps153
  go_wp2
  go_ret
  exact ⟨w.heap.size, rfl, ⟨heap_alloc_new w _, .inr (Nat.le_refl _)⟩, (Below.refl _ w).alloc (Nat.le_refl _) _⟩
set_option maxHeartbeats 1000000 in
theorem set_q (Q : Nat → Prop) (s : Ws) (w : World) : Calls Tryz.prog 137 #[wsV s] w (NewQ Q (.set s) w) := by
  go_enter Tryz.func137, Tryz.ntmps137
  go_wp2
  go_ret
  refine ⟨w.heap.size + 1, rfl, ⟨?_, .inr (by omega)⟩, ((Below.refl _ w).alloc (Nat.le_refl _) _).alloc (by simp) _⟩
  have := heap_alloc_new (w.alloc (.cells #[.int .u64 s.a, .int .u64 s.b, .int .u64 s.c, .int .u64 s.d] 100)) (.cells #[.int .i64 0, .int .u64 s.a, .int .u64 s.b, .int .u64 s.c, .int .u64 s.d, .slice none 0 0, .int .i64 1, .bool false] 128)
  rw [show (w.alloc (.cells #[.int .u64 s.a, .int .u64 s.b, .int .u64 s.c, .int .u64 s.d] 100)).heap.size = w.heap.size + 1 by simp] at this
  exact this
theorem made_one' (x : Rx) (bx g : Nat) (w : World) (hg : w.heap[g]? = some (.cells #[ptr bx] 68 (0, 0))) (hx : NdAt w x bx) (hs : x.size ≤ 1000000000) :
    Calls Tryz.prog 142 #[.int .i64 4, .bool true, .slice (some ⟨g, 0, none⟩) 1 1] w fun e w' => e = .returned (ptr w.heap.size) ∧ NdB w' (.star x) w.heap.size (.slice (some ⟨g, 0, none⟩) 1 1) ∧ Below w.heap.size w w' := by
  obtain ⟨sx, _, _⟩ := nd_size hx
  refine (made_any 4 true g 1 (fun _ => bx) (fun _ => x.size) w (by omega) ?_ ?_ ?_).mono ?_
  · intro k hk
    obtain rfl : k = 0 := by omega
    rw [Lib.cell_of_heap hg]; rfl
  · intro k hk
    exact sx
  · intro k hk
    exact hs
  · rintro e w' ⟨rfl, hb, hh⟩
    refine ⟨rfl, ?_, hb⟩
    have hsum : ((List.range 1).map (fun _ => x.size)).sum = x.size := by simp [List.range_succ]
    rw [hsum] at hh
    unfold NdB
    rw [hh]
    simp [Rx.kind, Rx.ws, Rx.size, Rx.nul]
set_option maxHeartbeats 1000000 in
theorem star_q (Q : Nat → Prop) (x : Rx) (bx : Nat) (w : World) (hx : NdQ w Q x bx) (hs : x.size ≤ 1000000000) : Calls Tryz.prog 152 #[ptr bx] w (NewQ Q (.star x) w) := by
  have hb : Below w.heap.size w (w.alloc (.cells #[ptr bx] 68)) := (Below.refl _ w).alloc (Nat.le_refl _) _
  have hg := heap_alloc_new w (.cells #[ptr bx] 68)
  have HM := Lib.hid (made_one' x bx w.heap.size _ hg (hx.nd.keep (KN.of_below hb)) hs)
  have HB := Lib.hid hb; have HG := Lib.hid hg; have HX := Lib.hid hx
  clear hx hb hg
  go_enter Tryz.func152, Tryz.ntmps152
  go_wp2_with fail
  refine HM.out.mono ?_
  rintro e w' ⟨rfl, h2, h3⟩
  have HN := Lib.hid (show NewQ Q (.star x) w (.returned (ptr (w.alloc (.cells #[ptr bx] 68)).heap.size)) w' from ⟨_, rfl, ⟨w.heap.size, bx, h2, (h3.block _ (lt_of_heap HG.out)).trans HG.out, (HX.out.keep (KeepQ.below (below_tr HB.out h3 HB.out.size))).mono (fun i _ hi => .inl hi), .inr (by simp), .inr (Nat.le_refl _)⟩, below_tr HB.out h3 HB.out.size⟩)
  rw [show (w.alloc (.cells #[ptr bx] 68)).heap.size = w.heap.size + 1 by simp] at HN
  clear h2 h3
  go_wp2
  go_ret
  exact HN.out
theorem nested_zero_q (Q : Nat → Prop) (jf nn c : Nat) (A : Option Addr) (r0 : Rx) (w : World) (hn : NdQ w Q r0 nn) :
    Calls Tryz.prog 140 #[.slice A 0 c, ptr nn, .func (.func jf) #[] #[]] w (NewQ Q r0 w) := by
  have hb : Below w.heap.size w (w.alloc (.cells #[.func (.func jf) #[] #[]] 194)) := (Below.refl _ w).alloc (Nat.le_refl _) _
  have HC := Lib.hid (contains_no A 0 c [] (w.alloc (.cells #[.func (.func jf) #[] #[]] 194)) (.inl rfl) rfl (by omega) (by omega))
  have HN := Lib.hid (hn.keep (KeepQ.below hb)); have HB := Lib.hid hb
  clear hn hb
  go_enter Tryz.func140, Tryz.ntmps140
  go_wp2_with fail
  refine HC.out.mono ?_
  rintro e w1 ⟨rfl, rfl⟩
  go_wp2
  go_ret
  exact ⟨nn, rfl, HN.out.mono (fun i _ hi => .inl hi), HB.out⟩

set_option maxRecDepth 100000 in
set_option maxHeartbeats 1000000 in
theorem nested_many_q (Q : Nat → Prop) (jf c m m1 : Nat) (v0 : Value) (mk : Rx → Rx → Rx) (hjf : jf = 156 ∧ mk = .cat ∨ jf = 141 ∧ mk = .or) (A : Option Addr) (bs : List Nat) (bz : Nat) (rs : List Rx) (rz : Rx) (w : World) (hrow : RowAt w A (bs ++ [bz])) (hnds : NdsQ w Q (rs ++ [rz]) (bs ++ [bz])) (hlen : bs.length = m) (hm1 : m1 = m + 1) (hc : m1 ≤ c) (_hc2 : c ≤ 9223372036854775807) (hm : m ≤ 1000) (hsz : ∀ r ∈ rs ++ [rz], r.size ≤ 100000) :
    Calls Tryz.prog 140 #[.slice A m1 c, v0, .func (.func jf) #[] #[]] w (NewQ Q (rs.foldr mk rz) w) := by
  obtain ⟨Qn, hQn⟩ : ∃ Qn : Nat → Prop, Qn = fun i => (Q i ∨ w.heap.size ≤ i) ∧ i ≠ w.heap.size + 1 := ⟨_, rfl⟩
  have hqn : ∀ i, Qn i → i ≠ w.heap.size + 1 := fun i hi => by rw [hQn] at hi; exact hi.2
  have hqo : ∀ i, i < w.heap.size → Q i → Qn i := fun i hi hq => by rw [hQn]; exact ⟨.inl hq, by omega⟩
  have hqw : ∀ i, w.heap.size + 1 < i → Qn i := fun i hi => by rw [hQn]; exact ⟨.inr (by omega), by omega⟩
  have hqe : ∀ i, Qn i → Q i ∨ w.heap.size ≤ i := fun i hi => by rw [hQn] at hi; exact hi.1
  clear hQn
  have hb : Below w.heap.size w (w.alloc (.cells #[.func (.func jf) #[] #[]] 194)) := (Below.refl _ w).alloc (Nat.le_refl _) _
  obtain ⟨g, cs, fz, rfl, hg, hcs⟩ : ∃ g cs fz, A = some ⟨g, 0, none⟩ ∧ w.heap[g]? = some (.cells cs 68 fz) ∧ ∀ (i b : Nat), (bs ++ [bz])[i]? = some b → cs[i]? = some (ptr b) := by
    rcases hrow with h | h
    · simp at h
    · exact h
  have hgl := lt_of_heap hg
  have hlast : (bs ++ [bz])[m]? = some bz := by rw [← hlen]; simp
  have hgc : (w.alloc (.cells #[.func (.func jf) #[] #[]] 194)).cell? ⟨g, m, none⟩ = some (ptr bz) := by
    rw [hb.cell (p := ⟨g, m, none⟩) hgl, Lib.cell_of_heap hg]; exact hcs m bz hlast
  have HC := Lib.hid (contains_no (some ⟨g, 0, none⟩) m1 c (bs ++ [bz]) (w.alloc (.cells #[.func (.func jf) #[] #[]] 194)) (.inr ⟨g, cs, fz, rfl, (hb.block g hgl).trans hg, hcs⟩) (by simp [hlen, hm1]) hc (by omega))
  have p1 : IntKind.i64.wrap ((m1 : Int) - 1) = (m : Int) := by rw [IntWalk.i64_in _ (by omega)]; omega
  have p2 : (m : Int) < (m1 : Int) := by omega
  have p3 : (0 : Int) ≤ (m : Int) := by omega
  have p4 : (m : Int) ≤ (c : Int) := by omega
  have p5 : (m1 : Int) ≠ 0 := by omega
  have p6 : m1 ≠ 0 := by omega
  have HG := Lib.hid hg; have HCS := Lib.hid hcs; have HN := Lib.hid hnds; have HL := Lib.hid hlen; have HB := Lib.hid hb; have HM1 := Lib.hid hm1; have HJ := Lib.hid hjf; have HZ := Lib.hid hsz
  clear hg hcs hnds hlen hb hm1 hjf hrow hlast hsz
  refine (callsIn_wide (n := 4)).1 ?_
  refine callsIn_of_wp_marks Tryz.func140 rfl trivial ?_ rfl
  simp only [Tryz.ntmps140, List.size_toArray, List.length_cons, List.length_nil, Nat.reduceAdd, Nat.reduceSub, Array.replicate_succ, Array.replicate_zero, List.push_toArray, List.append_toArray, List.nil_append, List.cons_append]
  refine wpIn_wide.2 ?_
  go_wp2_with fail
  refine HC.out.mono ?_
  rintro e w1 ⟨rfl, rfl⟩
  go_wp2_with fail
  have hbn0 : Below w.heap.size w ((w.alloc (.cells #[.func (.func jf) #[] #[]] 194)).alloc (.cells #[.pointer (some ⟨bz, 0, none⟩)] 68)) := HB.out.alloc (by simp) _
  have hsn : ((w.alloc (.cells #[.func (.func jf) #[] #[]] 194)).alloc (.cells #[.pointer (some ⟨bz, 0, none⟩)] 68)).heap.size = w.heap.size + 2 := by simp
  have xj : Boxed ((w.alloc (.cells #[.func (.func jf) #[] #[]] 194)).alloc (.cells #[.pointer (some ⟨bz, 0, none⟩)] 68)) w.heap.size 194 (.func (.func jf) #[] #[]) := (Boxed.new w 194 _).alloc _
  have xn : Boxed ((w.alloc (.cells #[.func (.func jf) #[] #[]] 194)).alloc (.cells #[.pointer (some ⟨bz, 0, none⟩)] 68)) (w.heap.size + 1) 68 (ptr bz) := by
    have := Boxed.new (w.alloc (.cells #[.func (.func jf) #[] #[]] 194)) 68 (.pointer (some ⟨bz, 0, none⟩))
    rwa [show (w.alloc (.cells #[.func (.func jf) #[] #[]] 194)).heap.size = w.heap.size + 1 by simp] at this
  generalize hw2 : (w.alloc (.cells #[.func (.func jf) #[] #[]] 194)).alloc (.cells #[.pointer (some ⟨bz, 0, none⟩)] 68) = w2 at hbn0 hsn xj xn ⊢
  clear hw2 hgc HC HB
  refine (bw_fn (some ⟨g, 0, none⟩) m c w2).mono ?_
  rintro e w3' ⟨rfl, rfl⟩
  have hb3 : Below w.heap.size w (w2.alloc (.cells #[.slice (some ⟨g, 0, none⟩) m c] 24)) := hbn0.alloc (by omega) _
  have xs := Boxed.new w2 24 (.slice (some ⟨g, 0, none⟩) m c)
  have hs3 : (w2.alloc (.cells #[.slice (some ⟨g, 0, none⟩) m c] 24)).heap.size = w.heap.size + 3 := by simp [hsn]
  have HXJ := Lib.hid (xj.alloc (.cells #[.slice (some ⟨g, 0, none⟩) m c] 24)); have HXN := Lib.hid (xn.alloc (.cells #[.slice (some ⟨g, 0, none⟩) m c] 24)); have HXS := Lib.hid xs; have HB3 := Lib.hid hb3
  rw [hsn] at HXS ⊢
  generalize hw3 : w2.alloc (.cells #[.slice (some ⟨g, 0, none⟩) m c] 24) = w3 at HXJ HXN HXS HB3 hs3 ⊢
  clear hw3 hbn0 hsn xj xn xs hb3
  go_wp2_with fail
  refine (wpIn_wide (n := 4)).1 ?_
  refine wpIn_rangeFunc_ownG rfl (by decide) (gf := 174) (lb := #[.pointer (some ⟨w.heap.size + 2, 0, none⟩)]) rfl trivial (enters_of Tryz.func174 (by kernel_rfl) rfl)
    (bw_stops Fence.wide (4 - 1) trivial rfl (by decide) (w.heap.size + 2) (w.heap.size + 1) m c (some ⟨g, 0, none⟩) bs rs HL.out (by have := HN.out.1; simp at this; rw [← HL.out]; exact this) (by omega) (by omega) w3 HXS.out (by omega) (.inr ⟨g, cs, fz, rfl, (HB3.out.block g hgl).trans HG.out, fun i b hi => HCS.out i b (by rw [List.getElem?_append_left (List.getElem?_eq_some_iff.1 hi).1]; exact hi)⟩) (fun a ha => by cases ha; show g ≠ _; omega)) KeepO.trans (fun W l o o' _ ho hc _ => KeepO.put _ W l o o' ho hc) (Below.refl _ _) (fun _ => rfl)
    (fun (pre : List (Yl bs rs)) W => (∃ bn, Boxed W (w.heap.size + 1) 68 (ptr bn) ∧ NdQ W Qn (foldb mk rz (pre.map (fun (x : Yl bs rs) => x.1.2.2))) bn ∧ (foldb mk rz (pre.map (fun (x : Yl bs rs) => x.1.2.2))).size ≤ (pre.length + 1) * 100001 ∧ Boxed W w.heap.size 194 (.func (.func jf) #[] #[])) ∧ Below w.heap.size w W)
    (fun _ _ _ => False)
    (OwnFrom.and (fun pre W W' row ⟨bn, h1, h2, h3, h4⟩ hg hr => ⟨bn, keep_far hg hr h1, h2.keep ((keepO_far (C := w.heap.size + 1) hg hr).q hqn), h3, keep_far hg hr h4⟩) (ownFrom_below (Nat.le_refl _) (by omega)))
    (fun _ _ _ _ _ hs _ _ => hs)
    ⟨⟨bz, HXN.out, (HN.out.2 m rz bz (by rw [← HL.out]; have := HN.out.1; simp at this; rw [← this]; simp) (by rw [← HL.out]; simp)).mono hqo |>.keep (KeepQ.below HB3.out), by have := HZ.out rz (by simp); simp [foldb]; omega, HXJ.out⟩, HB3.out⟩
    (fun x => { tmps := #[.slice (some ⟨g, 0, none⟩) m1 c, v0, .func (.func jf) #[] #[], undef, undef, .pointer (some ⟨w.heap.size, 0, none⟩), .pointer none, .pointer (some ⟨w.heap.size + 1, 0, none⟩), undef, ptr x.1.2.1, .slice (some ⟨g, 0, none⟩) m1 c, .bool false, .slice (some ⟨g, 0, none⟩) m1 c, .int .i64 m1, .bool false, undef, .slice (some ⟨g, 0, none⟩) m1 c, .slice (some ⟨g, 0, none⟩) m1 c, .int .i64 m1, .int .i64 m, .pointer (some ⟨g, m, none⟩), ptr bz, .slice (some ⟨g, 0, none⟩) m1 c, .slice (some ⟨g, 0, none⟩) m1 c, .int .i64 m1, .int .i64 m, .slice (some ⟨g, 0, none⟩) m c, .func (.func 174) #[] #[.pointer (some ⟨w.heap.size + 2, 0, none⟩)], .int .i64 x.1.1, ptr x.1.2.1, undef, undef, undef, undef, undef], defers := [] }) ?assign ?body ?done ?stop
  case assign =>
    intro l x W K hK
    gi_wp2
    exact hK
  case stop =>
    rintro D c pre W _ _ h _
    exact h.elim
  case body =>
    rintro l pre x W ⟨⟨bn, hbn, hnd, hszp, hbj⟩, hB⟩ hlt
    have c1 := hbn.cell
    have c2 := hbj.cell
    obtain ⟨⟨xi, xb, xr⟩, hxb, hxr⟩ := x
    dsimp only at hxb hxr ⊢
    have hmem : xr ∈ rs := List.mem_of_getElem? hxr
    have hxz : xr.size ≤ 100000 := HZ.out xr (by simp [hmem])
    have hxn : NdQ W Qn xr xb := (NdQ.mono hqo (HN.out.2 xi xr xb (by rw [List.getElem?_append_left (List.getElem?_eq_some_iff.1 hxr).1]; exact hxr) (by rw [List.getElem?_append_left (List.getElem?_eq_some_iff.1 hxb).1]; exact hxb))).keep (KeepQ.below hB)
    have hpl : (pre.length + 1) * 100001 ≤ 100101001 := by omega
    rcases HJ.out with ⟨rfl, rfl⟩ | ⟨rfl, rfl⟩
    · have HCC := Lib.hid (cat1x_any xr _ xb bn W hxn.nd hnd.nd (by omega))
      have HD := Lib.hid hnd
      clear hnd
      gi_wp2_with (refine ⟨trivial, ?_⟩; gi_at_call 156; refine (CallsIn.inRound l (callsIn_wide.2 HCC.out)).mono ?_; rintro e w5 ⟨nb, g5, rfl, hnb5, hg5, hn5, hr5, hb5⟩; have x5 := (show Boxed w5 (w.heap.size + 1) 68 (ptr bn) from (hb5.block _ (lt_of_heap hbn)).trans hbn); have d5 := x5.cell; have e5 := x5.frozen)
      refine ⟨((keeps_below hb5).trans (KeepsOthers.setCell _ _ _)).from _, keepO_set hb5 _, ⟨nb, x5.set _, ?_, ?_, ?_⟩, ?_⟩
      · rw [List.map_append, List.map_singleton, foldb_snoc]
        have hW1 : w.heap.size + 1 < W.heap.size := lt_of_heap hbn
        have hk5 : KeepO (w.heap.size + 1) w5 (w5.setCell ⟨w.heap.size + 1, 0, none⟩ (ptr nb)) := keepO_set (Below.refl _ _) _
        have hkW : KeepQ Qn W w5 := KeepQ.below hb5
        exact ⟨g5, xb, bn, hk5 _ _ _ _ (by omega) hn5, hk5 _ _ _ _ (by omega) hr5, (hxn.keep hkW).keep (hk5.q hqn), (HD.out.keep hkW).keep (hk5.q hqn), hqw _ (by omega), hqw _ (by omega)⟩
      · rw [List.map_append, List.map_singleton, foldb_snoc, List.length_append, List.length_singleton]
        simp only [Rx.size]
        omega
      · exact Boxed.other (show Boxed w5 w.heap.size 194 _ from (hb5.block _ (lt_of_heap hbj)).trans hbj) (by omega) _
      · exact (hB.trans (hb5.mono hB.size)).trans ((Kb.setCell w5 ⟨w.heap.size + 1, 0, none⟩ _).below (Nat.le_trans hB.size hb5.size) (fun i hi => by rw [hi]; show w.heap.size ≤ w.heap.size + 1; omega))
    · have HCC := Lib.hid (or1x_any xr _ xb bn W hxn.nd hnd.nd (by omega))
      have HD := Lib.hid hnd
      clear hnd
      gi_wp2_with (refine ⟨trivial, ?_⟩; gi_at_call 141; refine (CallsIn.inRound l (callsIn_wide.2 HCC.out)).mono ?_; rintro e w5 ⟨nb, g5, rfl, hnb5, hg5, hn5, hr5, hb5⟩; have x5 := (show Boxed w5 (w.heap.size + 1) 68 (ptr bn) from (hb5.block _ (lt_of_heap hbn)).trans hbn); have d5 := x5.cell; have e5 := x5.frozen)
      refine ⟨((keeps_below hb5).trans (KeepsOthers.setCell _ _ _)).from _, keepO_set hb5 _, ⟨nb, x5.set _, ?_, ?_, ?_⟩, ?_⟩
      · rw [List.map_append, List.map_singleton, foldb_snoc]
        have hW1 : w.heap.size + 1 < W.heap.size := lt_of_heap hbn
        have hk5 : KeepO (w.heap.size + 1) w5 (w5.setCell ⟨w.heap.size + 1, 0, none⟩ (ptr nb)) := keepO_set (Below.refl _ _) _
        have hkW : KeepQ Qn W w5 := KeepQ.below hb5
        exact ⟨g5, xb, bn, hk5 _ _ _ _ (by omega) hn5, hk5 _ _ _ _ (by omega) hr5, (hxn.keep hkW).keep (hk5.q hqn), (HD.out.keep hkW).keep (hk5.q hqn), hqw _ (by omega), hqw _ (by omega)⟩
      · rw [List.map_append, List.map_singleton, foldb_snoc, List.length_append, List.length_singleton]
        simp only [Rx.size]
        omega
      · exact Boxed.other (show Boxed w5 w.heap.size 194 _ from (hb5.block _ (lt_of_heap hbj)).trans hbj) (by omega) _
      · exact (hB.trans (hb5.mono hB.size)).trans ((Kb.setCell w5 ⟨w.heap.size + 1, 0, none⟩ _).below (Nat.le_trans hB.size hb5.size) (fun i hi => by rw [hi]; show w.heap.size ≤ w.heap.size + 1; omega))
  case done =>
    rintro D ys W hD hys ⟨⟨bn, hbn, hnd, _, _⟩, hB⟩ hK
    have c1 := hbn.cell
    rw [hys, foldb_rev] at hnd
    have HND := Lib.hid hnd
    clear hnd
    go_wp2
    refine ⟨by simp, .inl ⟨_, _, rfl, run_takeDeferred hK, ?_⟩⟩
    have hg := grownBy_putObj' W D (.deferred none)
    have hr : ∀ r, some D = some r → w.heap.size ≤ r ∧ ∃ o : Obj, W.heap[r]? = some o ∧ o.isCells = false := fun r e => by
      injection e with e
      subst e
      exact ⟨by omega, _, hK, rfl⟩
    exact ⟨_, results_tmp rfl _ _ _, bn, rfl, (HND.out.keep ((keepO_far (C := w.heap.size + 1) hg hr).q hqn)).mono (fun i _ hi => hqe i hi), hB.trans (belowK_b (w := w) (Nat.le_refl _) W D _ _ (by omega) hK rfl rfl)⟩

/-- nested, in one. -/
theorem nested_q (Q : Nat → Prop) (jf c m nn : Nat) (mk : Rx → Rx → Rx) (hjf : jf = 156 ∧ mk = .cat ∨ jf = 141 ∧ mk = .or) (A : Option Addr) (bs : List Nat) (rs : List Rx) (r0 : Rx) (w : World) (hrow : RowAt w A bs) (hnds : NdsQ w Q rs bs) (hlen : bs.length = m) (hc : m ≤ c) (hc2 : c ≤ 9223372036854775807) (hm : m ≤ 1000) (hsz : ∀ r ∈ rs, r.size ≤ 100000) (hn : NdQ w Q r0 nn) :
    Calls Tryz.prog 140 #[.slice A m c, ptr nn, .func (.func jf) #[] #[]] w (NewQ Q (nest mk r0 rs) w) := by
  rcases List.eq_nil_or_concat bs with rfl | ⟨bs, bz, rfl⟩
  · have hr0 : rs = [] := List.length_eq_zero_iff.1 (by rw [hnds.1]; rfl)
    subst hr0
    obtain rfl : m = 0 := by simpa using hlen.symm
    exact nested_zero_q Q jf nn c A r0 w hn
  · rw [List.concat_eq_append] at *
    rcases List.eq_nil_or_concat rs with rfl | ⟨rs, rz, rfl⟩
    · have := hnds.1; simp at this
    · rw [List.concat_eq_append] at *
      rw [nest_snoc]
      exact nested_many_q Q jf c bs.length m (ptr nn) mk hjf A bs bz rs rz w hrow hnds rfl (by simpa using hlen.symm) hc hc2 (by simp at hlen; omega) hsz

set_option maxHeartbeats 1000000 in
theorem cat_q (Q : Nat → Prop) (c m : Nat) (A : Option Addr) (bs : List Nat) (rs : List Rx) (w : World) (hrow : RowAt w A bs) (hnds : NdsQ w Q rs bs) (hlen : bs.length = m) (hc : m ≤ c) (hc2 : c ≤ 9223372036854775807) (hm : m ≤ 1000) (hsz : ∀ r ∈ rs, r.size ≤ 100000) :
    Calls Tryz.prog 139 #[.slice A m c] w (NewQ Q (nest .cat .empty rs) w) := by
  have HR := Lib.hid hrow; have HN := Lib.hid hnds; have HL := Lib.hid hlen; have HZ := Lib.hid hsz
  clear hrow hnds hlen hsz
  go_enter Tryz.func139, Tryz.ntmps139
  go_wp2_with fail
  refine (empty_q Q w).mono ?_
  rintro e w1 ⟨nb, rfl, h2, h3⟩
  have HC := Lib.hid (nested_q (fun i => Q i ∨ w.heap.size ≤ i) 156 c m nb .cat (.inl ⟨rfl, rfl⟩) A bs rs .empty w1 (HR.out.keep h3) ((HN.out.keep (KeepQ.below h3)).mono (fun i _ hi => .inl hi)) HL.out hc hc2 hm HZ.out h2)
  have HB := Lib.hid h3
  clear h2 h3
  go_wp2_with fail
  refine HC.out.mono ?_
  rintro e w2 ⟨nb2, rfl, h2, h3⟩
  have HF := Lib.hid (show NewQ Q (nest .cat .empty rs) w (.returned (ptr nb2)) w2 from NewQ.wider ⟨nb2, rfl, h2, h3⟩ HB.out)
  clear h2 h3
  go_wp2
  go_ret
  exact HF.out
set_option maxHeartbeats 1000000 in
theorem or_q (Q : Nat → Prop) (c m : Nat) (A : Option Addr) (bs : List Nat) (rs : List Rx) (w : World) (hrow : RowAt w A bs) (hnds : NdsQ w Q rs bs) (hlen : bs.length = m) (hc : m ≤ c) (hc2 : c ≤ 9223372036854775807) (hm : m ≤ 1000) (hsz : ∀ r ∈ rs, r.size ≤ 100000) :
    Calls Tryz.prog 116 #[.slice A m c] w (NewQ Q (nest .or Rx.none' rs) w) := by
  have HR := Lib.hid hrow; have HN := Lib.hid hnds; have HL := Lib.hid hlen; have HZ := Lib.hid hsz
  clear hrow hnds hlen hsz
  go_enter Tryz.func116, Tryz.ntmps116
  go_wp2_with fail
  refine (set_q Q ⟨0, 0, 0, 0⟩ w).mono ?_
  rintro e w1 ⟨nb, rfl, h2, h3⟩
  have HC := Lib.hid (nested_q (fun i => Q i ∨ w.heap.size ≤ i) 141 c m nb .or (.inr ⟨rfl, rfl⟩) A bs rs Rx.none' w1 (HR.out.keep h3) ((HN.out.keep (KeepQ.below h3)).mono (fun i _ hi => .inl hi)) HL.out hc hc2 hm HZ.out h2)
  have HB := Lib.hid h3
  clear h2 h3
  go_wp2_with fail
  refine HC.out.mono ?_
  rintro e w2 ⟨nb2, rfl, h2, h3⟩
  have HF := Lib.hid (show NewQ Q (nest .or Rx.none' rs) w (.returned (ptr nb2)) w2 from NewQ.wider ⟨nb2, rfl, h2, h3⟩ HB.out)
  clear h2 h3
  go_wp2
  go_ret
  exact HF.out
theorem ndsq_two {w : World} {Q : Nat → Prop} {r t : Rx} {a b : Nat} (hr : NdQ w Q r a) (ht : NdQ w Q t b) : NdsQ w Q [r, t] [a, b] := ⟨rfl, fun i x y hx hy => by
  rcases i with _ | _ | i
  · have e1 : r = x := by simpa using hx
    have e2 : a = y := by simpa using hy
    subst e1; subst e2; exact hr
  · have e1 : t = x := by simpa using hx
    have e2 : b = y := by simpa using hy
    subst e1; subst e2; exact ht
  · simp at hx⟩

set_option maxHeartbeats 1000000 in
theorem repeated_q (Q : Nat → Prop) (w : World) (r : Rx) (nb c : Nat) (hn : NdQ w Q r nb) (hsz : r.size ≤ 90000) : Calls Tryz.prog 132 #[ptr nb, .int .u8 c] w (NewQ Q (repF r c) w) := by
  by_cases h1 : c = 42
  · subst h1
    have HS := Lib.hid (star_q Q r nb w hn (by omega))
    clear hn
    go_enter Tryz.func132, Tryz.ntmps132
    go_wp2_with fail
    refine HS.out.mono ?_
    rintro e w1 ⟨b1, rfl, h2, h3⟩
    have HF := Lib.hid (show NewQ Q (repF r 42) w (.returned (ptr b1)) w1 from ⟨b1, rfl, h2, h3⟩)
    clear h2 h3
    go_wp2
    go_ret
    exact HF.out
  · have h1i : ((c : Nat) : Int) ≠ 42 := by omega
    by_cases h2 : c = 43
    · subst h2
      have HS := Lib.hid (star_q Q r nb w hn (by omega))
      have HN := Lib.hid hn
      clear hn h1 h1i
      go_enter Tryz.func132, Tryz.ntmps132
      go_wp2_with fail
      refine HS.out.mono ?_
      rintro e w1 ⟨b1, rfl, h2, h3⟩
      have hb : Below w1.heap.size w1 (w1.alloc (.cells #[ptr nb, ptr b1] 68)) := (Below.refl _ w1).alloc (Nat.le_refl _) _
      have hnds := ndsq_two (((HN.out.keep (KeepQ.below h3)).keep (KeepQ.below hb)).mono (fun i _ hi => .inl hi)) (h2.keep (KeepQ.below hb))
      have HC := Lib.hid (cat_q (fun i => Q i ∨ w.heap.size ≤ i) 2 2 (some ⟨w1.heap.size, 0, none⟩) [nb, b1] [r, .star r] _ (row_two w1 nb b1) hnds rfl (by omega) (by omega) (by omega) (fun x hx => by
        rcases List.mem_cons.1 hx with rfl | hx
        · omega
        · rw [List.mem_singleton.1 hx]; show 1 + r.size ≤ _; omega))
      have HB := Lib.hid (below_tr h3 hb h3.size)
      clear h2 h3 hb hnds
      go_wp2_with fail
      refine HC.out.mono ?_
      rintro e w2 hn2
      obtain ⟨b2, rfl, h2, h3⟩ := hn2
      have HF := Lib.hid (show NewQ Q (repF r 43) w (.returned (ptr b2)) w2 from NewQ.wider ⟨b2, rfl, h2, h3⟩ HB.out)
      clear h2 h3
      go_wp2
      go_ret
      exact HF.out
    · have h2i : ((c : Nat) : Int) ≠ 43 := by omega
      have hrep : repF r c = .or r .empty := by unfold repF; rw [if_neg h1, if_neg h2]
      rw [hrep]
      have HN := Lib.hid hn
      clear hn hrep
      go_enter Tryz.func132, Tryz.ntmps132
      go_wp2_with fail
      refine (empty_q Q w).mono ?_
      rintro e w1 ⟨b1, rfl, h2, h3⟩
      have hb : Below w1.heap.size w1 (w1.alloc (.cells #[ptr nb, ptr b1] 68)) := (Below.refl _ w1).alloc (Nat.le_refl _) _
      have hnds := ndsq_two (((HN.out.keep (KeepQ.below h3)).keep (KeepQ.below hb)).mono (fun i _ hi => .inl hi)) (h2.keep (KeepQ.below hb))
      have HC := Lib.hid (or_q (fun i => Q i ∨ w.heap.size ≤ i) 2 2 (some ⟨w1.heap.size, 0, none⟩) [nb, b1] [r, .empty] _ (row_two w1 nb b1) hnds rfl (by omega) (by omega) (by omega) (fun x hx => by
        rcases List.mem_cons.1 hx with rfl | hx
        · omega
        · rw [List.mem_singleton.1 hx]; show 1 ≤ _; omega))
      have HB := Lib.hid (below_tr h3 hb h3.size)
      clear h2 h3 hb hnds
      go_wp2_with fail
      refine HC.out.mono ?_
      rintro e w2 hn2
      obtain ⟨b2, rfl, h2, h3⟩ := hn2
      have HF := Lib.hid (show NewQ Q (.or r .empty) w (.returned (ptr b2)) w2 from NewQ.wider ⟨b2, rfl, h2, h3⟩ HB.out)
      clear h2 h3
      go_wp2
      go_ret
      exact HF.out
end Go.Proofs.YtejdfpieblkapaaGreatDoor

/- Carried from another seat. -/
namespace Go.Proofs.YtejdfpieblkapaaGreatDoor
open Go.RowKit Go.Shelf


/-- What was read of an expression: the alternatives, and the factors of the last one. -/
structure Grp where
  ways : List Rx
  row : List Rx
def catR (l : List Rx) : Rx := nest .cat .empty l
def orR (l : List Rx) : Rx := nest .or Rx.none' l
def g0 : Grp := ⟨[], []⟩
def Grp.nextWay (g : Grp) : Grp := ⟨g.ways ++ [catR g.row], []⟩
def Grp.whole (g : Grp) : Rx := orR (g.ways ++ [catR g.row])
def szs (l : List Rx) : Nat := (l.map Rx.size).sum
def Grp.size (g : Grp) : Nat := szs g.ways + szs g.row
def gsz (l : List Grp) : Nat := (l.map Grp.size).sum
def Grp.put (g : Grp) (r : Rx) : Grp := ⟨g.ways, g.row ++ [r]⟩
def Grp.rep (g : Grp) (c : Nat) : Grp := ⟨g.ways, g.row.dropLast ++ [repF (g.row.getLast?.getD .empty) c]⟩
def OUT : ByteArray := ⟨#[124, 42, 43, 63, 40, 41, 91, 93, 46, 92]⟩
def REP : ByteArray := ⟨#[42, 43, 63]⟩
theorem out0 : inS OUT 0 = false := by decide
theorem rep0 : inS REP 0 = false := by decide
/-- An atom that isn't in brackets. -/
def atomF (L : List UInt8) (i : Nat) : Option (Ws × Nat) :=
  if nx L i = 46 then some ((btw 10 1).inv 4, i + 1) else if nx L i = 91 then classF L (i + 1) else (letF OUT L i).map fun x => (btw x.1 1, x.2)
def heavy (lo : List Grp) (g : Grp) : Bool := decide (400 < gsz (lo ++ [g]) ∨ 50 < lo.length)
/-- One step of the parser. -/
def stepF (L : List UInt8) (i : Nat) (lo : List Grp) (g : Grp) (f : Bool) : Option (Nat × List Grp × Grp × Bool) :=
  if nx L i = 124 then some (i + 1, lo, g.nextWay, false)
  else if nx L i = 40 then some (i + 1, lo ++ [g], g0, false)
  else if nx L i = 41 ∧ lo ≠ [] then some (i + 1, lo.dropLast, (lo.getLast?.getD g0).put g.whole, true)
  else if f = true ∧ inS REP (nx L i) = true then some (i + 1, lo, g.rep (nx L i), f)
  else (atomF L i).map fun x => (x.2, lo, g.put (.set x.1), true)
def finF (lo : List Grp) (g : Grp) : Option Rx := if lo = [] then (if g.whole.size ≤ 400 then some g.whole else none) else none
instance (lo : List Grp) : Decidable (lo = []) := match lo with
  | [] => .isTrue rfl
  | _ :: _ => .isFalse (by simp)
def runF (L : List UInt8) : Nat → Nat → List Grp → Grp → Bool → Option Rx
  | 0, _, _, _, _ => none
  | k + 1, i, lo, g, f => if i < L.length then
      (match stepF L i lo g f with
      | none => none
      | some (j, lo', g', f') => if heavy lo' g' = true then none else runF L k j lo' g' f')
    else finF lo g
def parseF (L : List UInt8) : Option Rx := runF L (L.length + 1) 0 [] g0 false

theorem classP_ok {s : ByteArray} {k i j : Nat} {t u : Ws} (h : classP s.data.toList k t i = some (u, j)) (hi : i ≤ s.size) (ht : t.Ok) : i < j ∧ j ≤ s.size ∧ u.Ok := by
  induction k generalizing i t with
  | zero => simp [classP] at h
  | succ k ih =>
    simp only [classP] at h
    split at h
    · rename_i hc
      injection h with h; injection h with h1 h2
      subst h1
      have := nx_in hc.2 (by omega)
      exact ⟨by omega, by omega, ht⟩
    · obtain ⟨⟨x, m⟩, hx, hh⟩ := Option.bind_eq_some_iff.1 h
      have h1 := lettersF_ok hx hi
      have h2 := ih hh h1.2.1 (ht.un h1.2.2)
      exact ⟨by omega, h2.2⟩
theorem classF_ok {s : ByteArray} {i j : Nat} {u : Ws} (h : classF s.data.toList i = some (u, j)) (hi : i ≤ s.size) : i < j ∧ j ≤ s.size ∧ u.Ok := by
  have hz : ws0.Ok := ⟨by decide, by decide, by decide, by decide⟩
  unfold classF at h
  split at h
  · rename_i h94
    have hi2 := nx_in h94 (by omega)
    obtain ⟨⟨x, m⟩, hx, hh⟩ := Option.map_eq_some_iff.1 h
    have h1 := classP_ok hx (by omega) hz
    injection hh with e1 e2
    subst e1; subst e2
    exact ⟨by omega, h1.2.1, inv_ok⟩
  · exact classP_ok h hi hz
theorem atomF_ok {s : ByteArray} {i j : Nat} {u : Ws} (h : atomF s.data.toList i = some (u, j)) (hi : i ≤ s.size) : i < j ∧ j ≤ s.size ∧ u.Ok := by
  unfold atomF at h
  split at h
  · rename_i h1
    have := nx_in h1 (by omega)
    injection h with h; injection h with e1 e2
    subst e1
    exact ⟨by omega, by omega, inv_ok⟩
  · split at h
    · rename_i h1
      have := nx_in h1 (by omega)
      have := classF_ok h (by omega)
      exact ⟨by omega, this.2⟩
    · obtain ⟨⟨x, m⟩, hx, hh⟩ := Option.map_eq_some_iff.1 h
      have h1 := letF_ok hx hi out0
      injection hh with e1 e2
      subst e1; subst e2
      exact ⟨h1.2.1, h1.2.2, btw_ok _ _⟩
theorem stepF_ok {s : ByteArray} {i j : Nat} {lo lo' : List Grp} {g g' : Grp} {f f' : Bool} (h : stepF s.data.toList i lo g f = some (j, lo', g', f')) (hi : i < s.size) : i < j ∧ j ≤ s.size := by
  unfold stepF at h
  split at h
  · injection h with h; injection h with e1 e2; omega
  · split at h
    · injection h with h; injection h with e1 e2; omega
    · split at h
      · injection h with h; injection h with e1 e2; omega
      · split at h
        · injection h with h; injection h with e1 e2; omega
        · obtain ⟨⟨x, m⟩, hx, hh⟩ := Option.map_eq_some_iff.1 h
          have := atomF_ok hx (by omega)
          injection hh with e1 e2
          subst e1
          exact ⟨this.1, this.2.1⟩

theorem Rx.size_pos : ∀ r : Rx, 1 ≤ r.size
  | .set _ => Nat.le_refl _
  | .empty => Nat.le_refl _
  | .cat a b => by show 1 ≤ 1 + a.size + b.size; omega
  | .or a b => by show 1 ≤ 1 + a.size + b.size; omega
  | .star a => by show 1 ≤ 1 + a.size; omega
theorem szs_nil : szs [] = 0 := rfl
theorem szs_cons (r : Rx) (l : List Rx) : szs (r :: l) = r.size + szs l := rfl
theorem szs_append (l m : List Rx) : szs (l ++ m) = szs l + szs m := by simp [szs]
theorem szs_len (l : List Rx) : l.length ≤ szs l := by
  induction l with
  | nil => simp
  | cons a l ih => have := a.size_pos; simp only [szs_cons, List.length_cons]; omega
theorem szs_mem {l : List Rx} {r : Rx} (h : r ∈ l) : r.size ≤ szs l := by
  induction l with
  | nil => cases h
  | cons a l ih =>
    rw [szs_cons]
    rcases List.mem_cons.1 h with rfl | h
    · omega
    · have := ih h; omega
theorem nest_size (mk : Rx → Rx → Rx) (hmk : ∀ a b, (mk a b).size = 1 + a.size + b.size) (r0 : Rx) (h0 : r0.size = 1) (l : List Rx) : (nest mk r0 l).size ≤ 2 * szs l + 1 := by
  induction l with
  | nil => show r0.size ≤ _; omega
  | cons a l ih =>
    cases l with
    | nil => show a.size ≤ _; rw [szs_cons]; omega
    | cons b l =>
      show (mk a (nest mk r0 (b :: l))).size ≤ _
      have := a.size_pos
      rw [hmk, szs_cons]; omega
theorem catR_size (l : List Rx) : (catR l).size ≤ 2 * szs l + 1 := nest_size _ (fun _ _ => rfl) _ rfl l
theorem orR_size (l : List Rx) : (orR l).size ≤ 2 * szs l + 1 := nest_size _ (fun _ _ => rfl) _ rfl l
theorem gsz_append (l m : List Grp) : gsz (l ++ m) = gsz l + gsz m := by simp [gsz]
theorem gsz_one (g : Grp) : gsz [g] = g.size := by simp [gsz]
theorem gsz_mem {l : List Grp} {g : Grp} (h : g ∈ l) : g.size ≤ gsz l := by
  induction l with
  | nil => cases h
  | cons a l ih =>
    have e : gsz (a :: l) = a.size + gsz l := rfl
    rw [e]
    rcases List.mem_cons.1 h with rfl | h
    · omega
    · have := ih h; omega
end Go.Proofs.YtejdfpieblkapaaGreatDoor
