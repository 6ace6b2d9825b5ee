/- gists. -/
import Derived.Test.YtejdfpieblkapaaGreatDoorG7
import Derived.Deep.LoopGhost
import Derived.Deep.RegionLaw
namespace Go.Proofs.YtejdfpieblkapaaGreatDoor
open Lib renaming hid → zh
open Go.RowKit Go.Shelf

theorem KeyIn.less {P : Program} {w : World} {kt : TypeId} {Kd Kd' : Value → Prop} (h : KeyIn P w kt Kd') (hd : ∀ v, Kd v → Kd' v) : KeyIn P w kt Kd where
 check em v hv := h.check em v (hd v hv)
 find x hx es hes := h.find x (hd x hx) es (fun e he => hd _ (hes e he))
 stays v hv := h.stays v (hd v hv)
theorem PtrK.below {w w' : World} {v : Value} (h : PtrK w v) (hb : Below w.heap.size w w') : PtrK w' v := by
 obtain ⟨g, cs, t, h1, h2⟩ := h
 exact ⟨g, cs, t, h1, (hb.block g (lt_of_heap h2)).trans h2⟩
theorem NdAt.key {w : World} {r : Rx} {b : Nat} (h : NdAt w r b) : PtrK w (ptr b) := by
 obtain ⟨A, n, hb, _⟩ := h.blk
 exact ⟨b, _, _, rfl, hb⟩
theorem Tryz.info128s : (Tryz.prog.info? 128).map (·.size) = some 8 := by kernel_rfl
theorem keyIn_nd {w w' : World} (hb : Below w.heap.size w w') : KeyIn Tryz.prog w' 68 (PtrK w) := by
 have h := Tryz.info128s
 cases hi : Tryz.prog.info? 128 with
 | none => rw [hi] at h; simp at h
 | some j =>
  rw [hi] at h
  simp only [Option.map_some, Option.some.injEq] at h
  exact (keyIn_ptr w' Tryz.underlying68 hi (by omega)).less (fun v hv => hv.below hb)
theorem Tryz.info85 : (Tryz.prog.info? 85).map (fun i => (i.zero, i.size, i.bytes)) = some (some zG, 3, 24) := by kernel_rfl
def nfd (f : Value → Option Value) (c : Nat) : Bool := !(f (ptr c)).isSome
theorem nfd_take {f : Value → Option Value} {ks : List Nat} {k c : Nat} (hc : ks[k]? = some c) : (ks.take (k + 1)).filter (nfd f) = (ks.take k).filter (nfd f) ++ (if nfd f c = true then [c] else []) := by
 have hk := (List.getElem?_eq_some_iff.1 hc)
 rw [List.take_succ_eq_append_getElem hk.1, List.filter_append, hk.2]
 simp [List.filter_cons]
structure GsI (w : World) (f : Value → Option Value) (m L : Nat) (S : List Ent) (ks : List Nat) (AP : Option Addr) (kp kg : Nat) (A4 : Option Addr) (c4 L4 : Nat) (A7 : Option Addr) (c7 : Nat) (G : List Gt) (wx : World) : Prop where
 len : L4 = L + ((ks.take kp).filter (nfd f)).length
 gs : gsL f (ks.take kg) G
 gk : ∀ g ∈ G, g.k ≤ 2001
 wk : wx.ownsRow w.heap.size 68 1 (.slice A4 L4 c4) L4 ((S.map fun e => ptr e.1) ++ ((ks.take kp).filter (nfd f)).map ptr)
 gr : wx.ownsRow w.heap.size 85 3 (.slice A7 kg c7) kg (flatGt G)
 mp : MpAt wx w.heap.size (PtrK w) f m
 bl : Below w.heap.size w wx
 lt : w.heap.size < wx.heap.size
 pr : ∀ (i c : Nat), ks[i]? = some c → ∃ gp, AP = some ⟨gp, 0, none⟩ ∧ wx.cell? ⟨gp, i, none⟩ = some (ptr c) ∧ (Value.slice A4 L4 c4).ownBlock ≠ some gp ∧ ∃ cs, wx.heap[gp]? = some (.cells cs 68 (0, 0))
theorem GsI.below {w : World} {f : Value → Option Value} {m L : Nat} {S : List Ent} {ks : List Nat} {AP : Option Addr} {kp kg : Nat} {A4 : Option Addr} {c4 L4 : Nat} {A7 : Option Addr} {c7 : Nat} {G : List Gt} {wx wy : World} (h : GsI w f m L S ks AP kp kg A4 c4 L4 A7 c7 G wx) (hb : Below wx.heap.size wx wy) : GsI w f m L S ks AP kp kg A4 c4 L4 A7 c7 G wy :=
 ⟨h.len, h.gs, h.gk, own_below h.wk hb, own_below h.gr hb, h.mp.keep (hb.block _ h.lt) (fun _ hv => hv), h.bl.trans (hb.mono h.bl.size), Nat.lt_of_lt_of_le h.lt hb.size, fun i c hc => by
  obtain ⟨gp, h1, h2, h3, cs, h4⟩ := h.pr i c hc
  exact ⟨gp, h1, (hb.cell (lt_of_heap h4)).trans h2, h3, cs, (hb.block _ (lt_of_heap h4)).trans h4⟩⟩
theorem MpAt.grown {w w' : World} {b n : Nat} {Kd : Value → Prop} {f : Value → Option Value} {row : Option Nat} (h : MpAt w b Kd f n) (hg : w.grownBy w' row) (hr : ∀ g, row = some g → ∃ cs t fz, w.heap[g]? = some (.cells cs t fz)) : MpAt w' b Kd f n := by
 refine h.keep (hg.block b h.lt ?_) (fun _ hv => hv)
 intro e
 obtain ⟨cs, t, fz, hc⟩ := hr b e.symm
 obtain ⟨es, clock, hb, _⟩ := h
 rw [hb] at hc
 cases hc
theorem own_cs {w : World} {base e size n : Nat} {v : Value} {xs : List Value} (h : w.ownsRow base e size v n xs) : ∀ g, v.ownBlock = some g → ∃ cs t fz, w.heap[g]? = some (.cells cs t fz) := fun g hg => by
 obtain ⟨_, cs, hc⟩ := own_ty h hg
 exact ⟨cs, _, _, hc⟩
theorem GsI.skip {w : World} {f : Value → Option Value} {m L : Nat} {S : List Ent} {ks : List Nat} {AP : Option Addr} {k : Nat} {A4 : Option Addr} {c4 L4 : Nat} {A7 : Option Addr} {c7 : Nat} {G : List Gt} {wx : World} {c : Nat} (h : GsI w f m L S ks AP k k A4 c4 L4 A7 c7 G wx) (hc : ks[k]? = some c) (hf : nfd f c = false) : GsI w f m L S ks AP (k + 1) k A4 c4 L4 A7 c7 G wx := by
 have e := nfd_take (f := f) hc
 rw [hf] at e
 simp only [Bool.false_eq_true, if_false, List.append_nil] at e
 exact ⟨by rw [e]; exact h.len, h.gs, h.gk, by rw [e]; exact h.wk, h.gr, h.mp, h.bl, h.lt, h.pr⟩
theorem GsI.push {w : World} {f : Value → Option Value} {m L : Nat} {S : List Ent} {ks : List Nat} {AP : Option Addr} {k : Nat} {A4 : Option Addr} {c4 L4 : Nat} {A7 : Option Addr} {c7 : Nat} {G : List Gt} {wx wz : World} {c g cap L5 : Nat} (h : GsI w f m L S ks AP k k A4 c4 L4 A7 c7 G wx) (hc : ks[k]? = some c) (hf : nfd f c = true)
  (hown : wz.ownsRow w.heap.size 68 1 (.slice (some ⟨g, 0, none⟩) L5 cap) L5 (((S.map fun e => ptr e.1) ++ ((ks.take k).filter (nfd f)).map ptr) ++ [ptr c])) (hg : wx.grownBy wz (Value.slice A4 L4 c4).ownBlock) (hat : (Value.slice A4 L4 c4).ownBlock = some g ∨ g = wx.heap.size) (hL : L5 = L4 + 1) :
  GsI w f m L S ks AP (k + 1) k (some ⟨g, 0, none⟩) cap L5 A7 c7 G wz := by
 have e := nfd_take (f := f) hc
 rw [hf] at e
 simp only [if_true] at e
 refine ⟨by rw [e, List.length_append, hL, h.len]; simp; omega, h.gs, h.gk, by rw [e, List.map_append, ← List.append_assoc]; exact hown, own_kb h.gr (Kb.of_grown hg) (fun q hq he => ?_), h.mp.grown hg (own_cs h.wk), h.bl.grown hg (Nat.le_of_lt h.lt) (fun j hj => (own_ty h.wk hj).1), Nat.lt_of_lt_of_le h.lt hg.size, fun i c' hc' => ?_⟩
 ·obtain ⟨_, cs, h1⟩ := own_ty h.gr hq
  obtain ⟨_, cs', h2⟩ := own_ty h.wk he.symm
  rw [h1] at h2; cases h2
 ·obtain ⟨gp, h1, h2, h3, cs, h4⟩ := h.pr i c' hc'
  have hk := hg.block gp (lt_of_heap h4) (fun e => h3 e.symm)
  refine ⟨gp, h1, ?_, ?_, cs, hk.trans h4⟩
  ·rw [Lib.cell_of_heap (hk.trans h4), ← Lib.cell_of_heap h4]; exact h2
  ·intro he
   have he' : g = gp := by simpa [Value.ownBlock] using he
   rcases hat with hat | hat
   ·rw [he'] at hat; exact h3 hat
   ·have := lt_of_heap h4; omega
theorem GsI.gist {w : World} {f : Value → Option Value} {m L : Nat} {S : List Ent} {ks : List Nat} {AP : Option Addr} {k : Nat} {A4 : Option Addr} {c4 L4 : Nat} {A7 : Option Addr} {c7 : Nat} {G : List Gt} {wx wz : World} {c g cap k1 : Nat} {gt : Gt} (h : GsI w f m L S ks AP (k + 1) k A4 c4 L4 A7 c7 G wx) (hc : ks[k]? = some c) (hgt : (f (ptr c)).getD zG = gt.val) (hgk : gt.k ≤ 2001)
  (hown : wz.ownsRow w.heap.size 85 3 (.slice (some ⟨g, 0, none⟩) k1 cap) k1 (flatGt G ++ gt.cells)) (hg : wx.grownBy wz (Value.slice A7 k c7).ownBlock) (hk1 : k1 = k + 1) :
  GsI w f m L S ks AP k1 k1 A4 c4 L4 (some ⟨g, 0, none⟩) cap (G ++ [gt]) wz := by
 subst hk1
 have hkk := List.getElem?_eq_some_iff.1 hc
 refine ⟨h.len, by rw [List.take_succ_eq_append_getElem hkk.1, hkk.2]; exact h.gs.snoc hgt, fun x hx => ?_, own_kb h.wk (Kb.of_grown hg) (fun q hq he => ?_), by rw [flatG_snoc]; exact hown, h.mp.grown hg (own_cs h.gr), h.bl.grown hg (Nat.le_of_lt h.lt) (fun j hj => (own_ty h.gr hj).1), Nat.lt_of_lt_of_le h.lt hg.size, fun i c' hc' => ?_⟩
 ·rcases List.mem_append.1 hx with hx | hx
  ·exact h.gk x hx
  ·simp only [List.mem_singleton] at hx; subst hx; exact hgk
 ·obtain ⟨_, cs, h1⟩ := own_ty h.wk hq
  obtain ⟨_, cs', h2⟩ := own_ty h.gr he.symm
  rw [h1] at h2; cases h2
 ·obtain ⟨gp, h1, h2, h3, cs, h4⟩ := h.pr i c' hc'
  have hk := hg.block gp (lt_of_heap h4) (fun e => by
   obtain ⟨_, cs', h5⟩ := own_ty h.gr e.symm
   rw [h4] at h5; cases h5)
  exact ⟨gp, h1, by rw [Lib.cell_of_heap (hk.trans h4), ← Lib.cell_of_heap h4]; exact h2, h3, cs, hk.trans h4⟩
def GsS (w : World) (rs : List Nat) (k : Nat) (v4 : Value) (wr : World) : Prop :=
 ∃ (A : Option Addr) (c L : Nat) (f : Value → Option Value) (n : Nat) (S : List Ent), v4 = .slice A L c ∧ L ≤ 1000000 ∧ c ≤ 9223372036854775807 ∧ Hid (L = S.length ∧ wr.ownsRow w.heap.size 68 1 (.slice A L c) L (S.map fun e => ptr e.1) ∧ MpAt wr w.heap.size (PtrK w) f n ∧ GL w rs f S ∧ k = cost S ∧ k ≤ 1000000 ∧ Below w.heap.size w wr ∧ w.heap.size < wr.heap.size)
theorem len_cost (S : List Ent) : S.length ≤ cost S := by
 induction S with
 | nil => simp
 | cons e S ih =>
  have : 1 ≤ e.cost := by
   unfold Ent.cost
   split
   ·exact Nat.le_refl _
   ·exact Rx.tm_pos _
  simp only [cost, List.map_cons, List.sum_cons, List.length_cons] at *
  omega

theorem own_base {w : World} {base base' e size n : Nat} {v : Value} {xs : List Value} (h : w.ownsRow base e size v n xs) (hb : base' ≤ base) : w.ownsRow base' e size v n xs := by
 refine ⟨h.1, h.2.imp id ?_⟩
 rintro ⟨g, cap, cur, rfl, r1, r2, r3⟩
 exact ⟨g, cap, cur, rfl, Nat.le_trans hb r1, r2, r3⟩
def ents (bs : List Nat) (rs : List Rx) : List Ent := (bs.zip rs).map fun x => (x.1, x.2, false)
theorem ents_fst : ∀ (bs : List Nat) (rs : List Rx), rs.length = bs.length → (ents bs rs).map (·.1) = bs
 | [], _, _ => rfl
 | b :: bs, [], h => by simp at h
 | b :: bs, r :: rs, h => by
  have := ents_fst bs rs (by simpa using h)
  simp only [ents, List.zip_cons_cons, List.map_cons] at *
  rw [this]
theorem ents_cost : ∀ (bs : List Nat) (rs : List Rx), rs.length = bs.length → cost (ents bs rs) = (rs.map Rx.tm).sum
 | [], [], _ => rfl
 | [], _ :: _, h => by simp at h
 | b :: bs, [], h => by simp at h
 | b :: bs, r :: rs, h => by
  have := ents_cost bs rs (by simpa using h)
  simp only [ents, cost, List.zip_cons_cons, List.map_cons, List.sum_cons, Ent.cost, Bool.false_eq_true, if_false] at *
  rw [this]
theorem ents_mem {bs : List Nat} {rs : List Rx} {e : Ent} (h : e ∈ ents bs rs) : e.2.2 = false ∧ ∃ i : Nat, rs[i]? = some e.2.1 ∧ bs[i]? = some e.1 := by
 obtain ⟨x, hx, rfl⟩ := List.mem_map.1 h
 obtain ⟨i, hi⟩ := List.getElem?_of_mem hx
 have := List.getElem?_zip_eq_some.1 hi
 exact ⟨rfl, i, this.2, this.1⟩
theorem GsS.begin {w w2 : World} {bs : List Nat} {rs : List Rx} {A : Option Addr} {n c : Nat} (hn : NdsAt w rs bs) (hl : bs.length = n) (hc : (rs.map Rx.tm).sum ≤ 1000000) (hc2 : c ≤ 9223372036854775807) (ho : w2.ownsRow w.heap.size 68 1 (.slice A n c) n (bs.map ptr))
  (hm : MpAt w2 w.heap.size (PtrK w) (fun _ => none) 0) (hb : Below w.heap.size w w2) (hlt : w.heap.size < w2.heap.size) : GsS w bs (rs.map Rx.tm).sum (.slice A n c) w2 := by
 have h1 := ents_fst bs rs hn.1
 have h2 := ents_cost bs rs hn.1
 have h3 : (ents bs rs).length = n := by rw [← hl, ← congrArg List.length h1, List.length_map]
 have h4 := len_cost (ents bs rs)
 refine ⟨A, c, n, _, 0, ents bs rs, rfl, by omega, hc2, h3.symm, ?_, hm, ⟨fun e he => ?_, fun k v h => by simp at h, fun i e he hf => ?_, fun x hx => ?_⟩, h2.symm, hc, hb, hlt⟩
 ·have : (ents bs rs).map (fun e => ptr e.1) = bs.map ptr := by
   have := congrArg (List.map ptr) h1
   rw [List.map_map] at this
   exact this
  rw [this]; exact ho
 ·obtain ⟨_, i, h5, h6⟩ := ents_mem he
  exact hn.2 i _ _ h5 h6
 ·rw [(ents_mem (List.mem_of_getElem? he)).1] at hf; cases hf
 ·rw [← h1] at hx
  obtain ⟨e, he, rfl⟩ := List.mem_map.1 hx
  exact .inr ⟨e, he, rfl⟩
theorem GsI.begin {w wr w3 : World} {f : Value → Option Value} {m L : Nat} {S : List Ent} {ks : List Nat} {AP : Option Addr} {nk cP g4 c4 : Nat} (h2 : wr.ownsRow w.heap.size 68 1 (.slice (some ⟨g4, 0, none⟩) L c4) L (S.map fun e => ptr e.1)) (h3 : MpAt wr w.heap.size (PtrK w) f m) (h7 : Below w.heap.size w wr) (h8 : w.heap.size < wr.heap.size)
  (hn : nk = ks.length) (ho : w3.ownsRow wr.heap.size 68 1 (.slice AP nk cP) nk (ks.map ptr)) (hb : Below wr.heap.size wr w3) : GsI w f m L S ks AP 0 0 (some ⟨g4, 0, none⟩) c4 L none 0 [] w3 := by
 refine ⟨by simp, by simpa using gsL.nil f, by simp, by simpa using own_below h2 hb, own_nil _ _ _ _, h3.keep (hb.block _ h8) (fun _ hv => hv), h7.trans (hb.mono h7.size), Nat.lt_of_lt_of_le h8 hb.size, fun i c hc => ?_⟩
 have hi := (List.getElem?_eq_some_iff.1 hc).1
 obtain ⟨gp, rfl, hcell, _, _⟩ := own_cells ho (by omega)
 obtain ⟨h5, cs, h6⟩ := own_ty ho (g := gp) rfl
 refine ⟨gp, rfl, hcell i _ (by rw [List.getElem?_map, hc]; rfl), ?_, cs, h6⟩
 intro e
 have e' : g4 = gp := by simpa [Value.ownBlock] using e
 obtain ⟨_, cs', h9⟩ := own_ty h2 (g := g4) rfl
 have := lt_of_heap h9
 omega

set_option maxRecDepth 100000 in
set_option maxHeartbeats 4000000 in
theorem gists_any (w : World) (A : Option Addr) (n c : Nat) (bs : List Nat) (rs : List Rx) (hr : RowAt w A bs) (hl : bs.length = n) (hA : n = 0 → A = none ∧ c = 0) (hn : NdsAt w rs bs) (hc : (rs.map Rx.tm).sum ≤ 1000000) :
  Calls Tryz.prog 48 #[.slice A n c] w fun e w' => ∃ f m, e = .returned (.map (some w.heap.size)) ∧ MpAt w' w.heap.size (PtrK w) f m ∧ GsOk w f ∧ (∀ b ∈ bs, (f (ptr b)).isSome = true) ∧ Below w.heap.size w w' := by
 have hmm := @run_makeMap Tryz.prog
 obtain ⟨w1, hw1⟩ : ∃ w1, w1 = w.alloc (.map #[] 0) := ⟨_, rfl⟩
 have hb1 : Below w.heap.size w w1 := by rw [hw1]; exact (Below.refl _ w).alloc (Nat.le_refl _) _
 have hm1 : MpAt w1 w.heap.size (PtrK w) (fun _ => none) 0 := by rw [hw1]; exact MpAt.made w _
 have hs1 : w1.heap.size = w.heap.size + 1 := by rw [hw1]; simp
 have hlen : n ≤ 1000000 := by
  have h1 : ∀ l : List Rx, l.length ≤ (l.map Rx.tm).sum := fun l => by
   induction l with
   | nil => simp
   | cons a l ih => have := a.tm_pos; simp only [List.map_cons, List.sum_cons, List.length_cons]; omega
  have := h1 rs
  have := hn.1
  omega
 have hr1 : RowAt w1 A bs := by
  rcases hr with h | ⟨g, cs, fz, h1, h2, h3⟩
  ·exact .inl h
  ·exact .inr ⟨g, cs, fz, h1, (hb1.block g (lt_of_heap h2)).trans h2, h3⟩
 have HC := zh (clone_nd A n c bs w1 hr1 hl hlen hA)
 have HB1 := zh hb1; have HM1 := zh hm1; have HS1 := zh hs1; have HN := zh hn; have HT := zh hc; have HL := zh hl
 clear hr hl hA hn hc hb1 hm1 hs1 hr1
 obtain ⟨i0, hi0, hz0, hz1, hz2⟩ := info_parts Tryz.info68g
 have HI0 := zh hi0; have HZ0 := zh hz0; have HZ1 := zh hz1; have HZ2 := zh hz2
 obtain ⟨i1, hj0, hy0, hy1, hy2⟩ := info_parts Tryz.info85
 have HJ := zh hj0; have HY0 := zh hy0; have HY1 := zh hy1; have HY2 := zh hy2
 clear hi0 hz0 hz1 hz2 hj0 hy0 hy1 hy2
 go_enter Tryz.func48, Tryz.ntmps48
 go_upto_region 2 with fail
 rw [← hw1]
 clear hw1
 go_wp2_with fail
 refine HC.out.mono ?_
 rintro e w2 ⟨v, rfl, ho, hb2⟩
 obtain ⟨A2, c2, rfl, _, hc2⟩ := own_form ho
 have hst : GsS w bs (rs.map Rx.tm).sum (.slice A2 n c2) w2 := by
  have hs := HS1.out
  exact GsS.begin HN.out HL.out HT.out hc2 (own_base ho (by omega)) (HM1.out.keep (hb2.block _ (by omega)) (fun _ hv => hv)) (HB1.out.trans (hb2.mono (by omega))) (Nat.lt_of_lt_of_le (by omega) hb2.size)
 have HST := zh hst
 clear hst ho hb2 HC
 go_wp2_with fail
 go_loopg [4] (rs.map Rx.tm).sum (fun k v wr => GsS w bs k v wr)
 case atStart => exact HST.out
 case round =>
  obtain ⟨A4, c4, L, f, m, S, rfl, hL, hc4, HH⟩ := hrel
  rcases List.eq_nil_or_concat S with rfl | ⟨S0, e0, rfl⟩
  ·obtain ⟨h1, h2, h3, h4, h5, h6, h7, h8⟩ := HH.out
   obtain rfl : L = 0 := h1
   have HQ := zh (show ∃ f m, MpAt wr w.heap.size (PtrK w) f m ∧ GsOk w f ∧ (∀ b ∈ bs, (f (ptr b)).isSome = true) ∧ Below w.heap.size w wr from ⟨f, m, h3, h4.ok, fun b hb => (h4.root b hb).elim id (fun ⟨e, he, _⟩ => absurd he (by simp)), h7⟩)
   clear h2 h3 h4 h5 h6 h7 h8 HH
   go_wp2
   go_ret
   obtain ⟨f, m, q1, q2, q3, q4⟩ := HQ.out
   exact ⟨f, m, rfl, q1, q2, q3, q4⟩
  ·rw [List.concat_eq_append] at *
   obtain ⟨b, r, fl⟩ := e0
   obtain ⟨h1, h2, h3, h4, h5, h6, h7, h8⟩ := HH.out
   have hnd : NdAt w r b := h4.nd (b, r, fl) (by simp)
   have hkn := KN.of_below h7
   obtain ⟨ks, hk, hns⟩ := hnd.kids
   have HP := zh (parts_any wr r b ks (hnd.keep hkn) (hk.keep hkn) (hns.keep hkn))
   have hk2 : ks.length ≤ 2 := by rw [← hns.1]; cases r <;> simp [Rx.kidsL]
   obtain ⟨mm, hmm2⟩ : ∃ mm, mm = S0.length := ⟨_, rfl⟩
   obtain ⟨g4, rfl, ct, _, hLc⟩ := own_get' (i := mm) (x := ptr b) h2 (by rw [hmm2]; simp)
   have hLm : L = mm + 1 := by rw [h1, hmm2]; simp
   have p1 : IntKind.i64.wrap ((L : Int) - 1) = (mm : Int) := by rw [IntWalk.i64_in _ (by omega)]; omega
   have hL0 : (0 : Int) < L := by omega
   have hmL : (mm : Int) < L := by omega
   have HND := zh (And.intro hnd (And.intro hk hns)); have HLM := zh (And.intro hLm hmm2)
   obtain ⟨nk, hnk⟩ : ∃ nk, nk = ks.length := ⟨_, rfl⟩
   rw [← hnk] at HP hk2
   have HNK := zh hnk
   clear h1 h2 h3 h4 h5 h6 h7 h8 hnd hkn hk hns hLm hmm2 hnk
   go_wp2_with fail
   refine HP.out.mono ?_
   rintro e w3 ⟨vP, rfl, hoP, hbP⟩
   obtain ⟨AP, cP, rfl, hcP1, hcP⟩ := own_form hoP
   have hgi : GsI w f m L (S0 ++ [(b, r, fl)]) ks AP 0 0 (some ⟨g4, 0, none⟩) c4 L none 0 [] w3 :=
    GsI.begin HH.out.2.1 HH.out.2.2.1 HH.out.2.2.2.2.2.2.1 HH.out.2.2.2.2.2.2.2 HNK.out hoP hbP
   have HGI := zh hgi
   clear hgi hoP hbP
   go_wp2_with fail
   go_loopw [4, 7, 29] (fun v4 v7 vi wx => ∃ (k : Nat) (A4 : Option Addr) (c4 L4 : Nat) (A7 : Option Addr) (c7 : Nat) (G : List Gt), k ≤ nk ∧ vi = .int .i64 k ∧ v4 = .slice A4 L4 c4 ∧ c4 ≤ 9223372036854775807 ∧ v7 = .slice A7 k c7 ∧ c7 ≤ 9223372036854775807 ∧ L4 ≤ L + k ∧ Hid (GsI w f m L (S0 ++ [(b, r, fl)]) ks AP k k A4 c4 L4 A7 c7 G wx)) (fun _ _ vi _ => nk - (intOf vi).toNat)
   case atStart => exact ⟨0, _, _, _, _, _, _, Nat.zero_le _, rfl, rfl, hc4, rfl, by omega, by omega, HGI.out⟩
   case round =>
    obtain ⟨k, A4, c5, L4, A7, c7, G, hkn, rfl, rfl, hc5, rfl, hc7, hL4, HG⟩ := hrel
    by_cases hlt : k < nk
    ·obtain ⟨c, hc⟩ : ∃ c, ks[k]? = some c := ⟨_, List.getElem?_eq_getElem (by rw [← HNK.out]; exact hlt)⟩
     obtain ⟨gp, rfl, hcell, _, _⟩ := HG.out.pr k c hc
     have hki : (k : Int) < nk := by omega
     have hk0 : (0 : Int) ≤ k := by omega
     have hkd : PtrK w (ptr c) := by
      obtain ⟨x, hx⟩ : ∃ x, r.kidsL[k]? = some x := ⟨_, List.getElem?_eq_getElem (by rw [HND.out.2.2.1, ← HNK.out]; exact hlt)⟩
      exact (HND.out.2.2.2 k x c hx hc).key
     obtain ⟨gt, hgt, hgk⟩ : ∃ gt : Gt, (f (ptr c)).getD zG = gt.val ∧ gt.k ≤ 2001 := by
      obtain ⟨x, hx⟩ : ∃ x, r.kidsL[k]? = some x := ⟨_, List.getElem?_eq_getElem (by rw [HND.out.2.2.1, ← HNK.out]; exact hlt)⟩
      exact HH.out.2.2.2.1.ok.look (HND.out.2.2.2 k x c hx hc)
     have HKI := zh (keyIn_nd HG.out.bl)
     obtain ⟨ga, gb, gc⟩ := gt
     have HLK := zh (show (if true = true then Value.tuple #[(f (ptr c)).getD zG, .bool (f (ptr c)).isSome] else (f (ptr c)).getD zG) = .tuple #[gsV ga (.pointer gb) gc, .bool (f (ptr c)).isSome] by rw [if_pos rfl, hgt]; rfl)
     generalize hβ : (f (ptr c)).isSome = β at HLK
     have HC := zh hc; have HKD := zh hkd; have HGT := zh (And.intro hgt hgk); have HBe := zh hβ
     clear hc hkd hgt hgk hβ
     go_upto_region 11 with (at_lookup; refine wpList_mp_look _ rfl _ _ 80 true rfl HKI.out Tryz.underlying80 (Tryz.zeroValue85 _) rfl HG.out.mp (ptr c) rfl HKD.out (.tuple #[gsV ga (.pointer gb) gc, .bool β]) (by rw [HBe.out]; exact HLK.out) ?_)
     have hby : Below wr.heap.size wr (wr.alloc (.cells #[.int .i64 ga, .pointer gb, .bool gc] 85)) := (Below.refl _ wr).alloc (Nat.le_refl _) _
     have hbox := heap_alloc_new wr (.cells #[.int .i64 ga, .pointer gb, .bool gc] 85)
     have HG2 := zh (HG.out.below hby)
     have HBX := zh hbox
     generalize wr.alloc (.cells #[.int .i64 ga, .pointer gb, .bool gc] 85) = wy at HG2 HBX ⊢
     clear hby hbox hcell
     obtain ⟨wbx, hwbx⟩ : ∃ wbx, wbx = wr.heap.size := ⟨_, rfl⟩
     rw [← hwbx] at HBX ⊢
     clear hwbx
     cases β with
     | false =>
      go_upto_region 13 with (at_builtin; refine wpList_append_lies _ rfl _ _ 24 rfl w.heap.size 68 i0 _ 1 8 Tryz.underlying24 HI0.out HZ0.out HZ1.out HZ2.out rfl (by omega) (.slice A4 L4 c5) L4 _ rfl (HG2.out.wk.alloc _) ⟨wy.heap.size, 0, none⟩ 1 1 [ptr c] rfl rfl (World.news_of_block (cs := #[ptr c]) (t := 68) (fr := (0, 0)) (heap_alloc_new wy _)) (by simp [Value.oneCell']) (by omega) (by unfold maxLen; omega) (by omega) (by have := HG2.out.lt; simp; omega) (wy.heap.size + 1) (by simp) ?_; intro g cap wz hown hgrow hat hlt')
      have hal : Below wy.heap.size wy (wy.alloc (.cells #[ptr c] 68)) := (Below.refl _ wy).alloc (Nat.le_refl _) _
      have HG3 := zh ((HG2.out.below hal).push (L5 := L4 + 1) HC.out (by unfold nfd; rw [HBe.out]; rfl) hown hgrow (hat.imp id (fun h => by rw [h]; simp)) rfl)
      have hbx3 : wz.heap[wbx]? = some (.cells #[.int .i64 ga, .pointer gb, .bool gc] 85 (0, 0)) := by
       have h1 := (hal.block wbx (lt_of_heap HBX.out)).trans HBX.out
       refine (hgrow.block wbx (lt_of_heap h1) (own_not (HG2.out.below hal).wk h1 (by decide))).trans h1
      obtain ⟨_, _, hce, _, hcap⟩ := own_form hown
      have hcap2 : cap ≤ 9223372036854775807 := by injection hce with _ _ e3; omega
      have x0 : wz.cell? ⟨wbx, 0, none⟩ = some (.int .i64 ga) := by rw [Lib.cell_of_heap hbx3]; rfl
      have x1 : wz.cell? ⟨wbx, 1, none⟩ = some (.pointer gb) := by rw [Lib.cell_of_heap hbx3]; rfl
      have x2 : wz.cell? ⟨wbx, 2, none⟩ = some (.bool gc) := by rw [Lib.cell_of_heap hbx3]; rfl
      clear hal hown hgrow hat hbx3 hce hcap
      go_wp2_with (at_builtin; refine wpList_append_lies _ rfl _ _ 136 rfl w.heap.size 85 i1 _ 3 24 Tryz.underlying136 HJ.out HY0.out HY1.out HY2.out rfl (by omega) (.slice A7 k c7) k _ rfl (HG3.out.gr.alloc _) ⟨wz.heap.size, 0, none⟩ 1 1 [.int .i64 ga, .pointer gb, .bool gc] rfl rfl (World.news_of_block (cs := #[.int .i64 ga, .pointer gb, .bool gc]) (t := 85) (fr := (0, 0)) (heap_alloc_new wz _)) (by simp [Value.oneCell']) (by omega) (by unfold maxLen; omega) (by omega) (by have := HG3.out.lt; simp; omega) (wz.heap.size + 1) (by simp) ?_; intro g2 cap2 wq hown hgrow hat hlt2)
      have hal : Below wz.heap.size wz (wz.alloc (.cells #[.int .i64 ga, .pointer gb, .bool gc] 85)) := (Below.refl _ wz).alloc (Nat.le_refl _) _
      have HG4 := zh ((HG3.out.below hal).gist (gt := ⟨ga, gb, gc⟩) (k1 := k + 1) HC.out HGT.out.1 HGT.out.2 hown hgrow rfl)
      obtain ⟨_, _, hce, _, hcap3⟩ := own_form hown
      have hcap4 : cap2 ≤ 9223372036854775807 := by injection hce with _ _ e3; omega
      clear hal hown hgrow hat hce hcap3
      go_roundw
      case rel => exact ⟨k + 1, _, _, _, _, _, _, by omega, by go_num, rfl, hcap2, rfl, hcap4, by omega, HG4.out⟩
      case measure => simp [intOf]; omega
     | true =>
      have HG3 := zh (HG2.out.skip HC.out (by unfold nfd; rw [HBe.out]; rfl))
      have x0 : wy.cell? ⟨wbx, 0, none⟩ = some (.int .i64 ga) := by rw [Lib.cell_of_heap HBX.out]; rfl
      have x1 : wy.cell? ⟨wbx, 1, none⟩ = some (.pointer gb) := by rw [Lib.cell_of_heap HBX.out]; rfl
      have x2 : wy.cell? ⟨wbx, 2, none⟩ = some (.bool gc) := by rw [Lib.cell_of_heap HBX.out]; rfl
      go_wp2_with (at_builtin; refine wpList_append_lies _ rfl _ _ 136 rfl w.heap.size 85 i1 _ 3 24 Tryz.underlying136 HJ.out HY0.out HY1.out HY2.out rfl (by omega) (.slice A7 k c7) k _ rfl (HG3.out.gr.alloc _) ⟨wy.heap.size, 0, none⟩ 1 1 [.int .i64 ga, .pointer gb, .bool gc] rfl rfl (World.news_of_block (cs := #[.int .i64 ga, .pointer gb, .bool gc]) (t := 85) (fr := (0, 0)) (heap_alloc_new wy _)) (by simp [Value.oneCell']) (by omega) (by unfold maxLen; omega) (by omega) (by have := HG3.out.lt; simp; omega) (wy.heap.size + 1) (by simp) ?_; intro g2 cap2 wq hown hgrow hat hlt2)
      have hal : Below wy.heap.size wy (wy.alloc (.cells #[.int .i64 ga, .pointer gb, .bool gc] 85)) := (Below.refl _ wy).alloc (Nat.le_refl _) _
      have HG4 := zh ((HG3.out.below hal).gist (gt := ⟨ga, gb, gc⟩) (k1 := k + 1) HC.out HGT.out.1 HGT.out.2 hown hgrow rfl)
      obtain ⟨_, _, hce, _, hcap3⟩ := own_form hown
      have hcap4 : cap2 ≤ 9223372036854775807 := by injection hce with _ _ e3; omega
      clear hal hown hgrow hat hce hcap3
      go_roundw
      case rel => exact ⟨k + 1, _, _, _, _, _, _, by omega, by go_num, rfl, hc5, rfl, hcap4, by omega, HG4.out⟩
      case measure => simp [intOf]; omega
    ·obtain rfl : k = nk := by omega
     obtain ⟨h1, h2, h3, h4, h5, h6, h7, h8⟩ := HH.out
     have hks : ks.take k = ks := by rw [HNK.out]; exact List.take_length
     have hfst := missing_fst f ks r.kidsL HND.out.2.2.1.symm
     have hfst2 : (missing f ks r.kidsL).map (fun e => ptr e.1) = (ks.filter (nfd f)).map ptr := by
      have := congrArg (List.map ptr) hfst
      rw [List.map_map] at this
      exact this
     by_cases hm : missing f ks r.kidsL = []
     ·have hPn : ks.filter (nfd f) = [] := by
       rw [hm] at hfst2
       simp only [List.map_nil] at hfst2
       exact List.map_eq_nil_iff.1 hfst2.symm
      have hL4 : L4 = L := by have := HG.out.len; rw [hks, hPn] at this; simpa using this
      subst hL4
      have hwk := HG.out.wk
      rw [hks, hPn] at hwk
      simp only [List.map_nil, List.append_nil, List.map_append, List.map_cons] at hwk
      have hall := missing_nil HND.out.2.2.1.symm hm
      have hgs := HG.out.gs
      rw [hks] at hgs
      obtain ⟨v, hv, _⟩ := gist_ok (f' := fun _ => some zG) h4.ok HND.out.1 HND.out.2.2 hall hgs rfl (fun _ _ => rfl)
      have HV := zh hv
      rw [HLM.out.1] at hwk
      obtain ⟨ga, _, hce, _, _, _, hown⟩ := own_snoc' hwk (by rw [List.length_map, HLM.out.2])
      injection hce with e1 e2 e3
      subst e1
      subst e3
      have HGO := zh (gistOf_any wr r b k A7 c7 w.heap.size G v (HND.out.1.keep (KN.of_below HG.out.bl)) HG.out.gr (by rw [hgs.1, HNK.out]) HG.out.gk hv)
      have HOW := zh hown
      have hmc : mm ≤ c5 := by have := HOW.out.2; rcases this with ⟨h, _⟩ | ⟨_, _, _, h, _, _, hh, _⟩; cases h; injection h with _ _ e; omega
      have hpop := zh (And.intro h4 (And.intro h5 (And.intro h6 (And.intro hall hgs))))
      have HKD := zh HND.out.1.key
      have hLL : ((L4 : Int) == (L4 : Int)) = true := by simp
      clear h1 h2 h3 h4 h5 h6 h7 h8 hks hfst hfst2 hm hPn hwk hall hgs hv hown
      go_wp2_with fail
      refine HGO.out.mono ?_
      rintro e wg ⟨rfl, hbg⟩
      have HG5 := zh (HG.out.below hbg)
      have HKI := zh (keyIn_nd HG5.out.bl)
      have HOW2 := zh (own_below HOW.out hbg)
      clear hbg
      go_wp2_with (at_mapUpdate; refine wpList_mp_store _ rfl _ _ _ 80 rfl HKI.out Tryz.underlying80 rfl HG5.out.mp (ptr b) v rfl rfl HKD.out ?_; intro ws f' hm' hf1 hf2 hturn)
      have hgr := hturn.grown
      have HNX := zh (show GsS w bs (cost S0) (.slice (some ⟨ga, 0, none⟩) mm c5) ws ∧ cost S0 < gk by
       obtain ⟨q1, q2, q3, q4, q5⟩ := hpop.out
       have hmo := some_upd hf1 hf2
       obtain ⟨v', hv', hgv⟩ := gist_ok q1.ok HND.out.1 HND.out.2.2 q4 q5 (by rw [hf1]; rfl) hmo
       rw [HV.out] at hv'
       injection hv' with hv'
       subst hv'
       obtain ⟨q6, q7⟩ := q1.pop hf1 hf2 hgv HND.out.2.1 q4
       have hls := len_cost S0
       have hmmS := HLM.out.2
       refine ⟨⟨_, c5, mm, f', _, S0, rfl, by omega, hc5, HLM.out.2, ?_, hm', q6, rfl, by omega, HG5.out.bl.grown hgr (Nat.le_of_lt HG5.out.lt) (fun j hj => by cases hj; exact Nat.le_refl _), Nat.lt_of_lt_of_le HG5.out.lt hgr.size⟩, by omega⟩
       refine own_kb HOW2.out (Kb.of_grown hgr) (fun q hq he => ?_)
       obtain ⟨_, cs, h9⟩ := own_ty HOW2.out hq
       obtain ⟨es, clock, h10, _⟩ := HG5.out.mp
       have he' : q = w.heap.size := by simpa using he
       rw [he', h10] at h9
       cases h9)
      clear hturn hgr hm'
      go_wp2
      go_roundg (cost S0)
      case measure => exact HNX.out.2
      case rel => exact HNX.out.1
     ·obtain ⟨q1, q2⟩ := h4.push HND.out.2.1 HND.out.2.2 hm
      have hlen := HG.out.len
      rw [hks] at hlen
      have hwk := HG.out.wk
      rw [hks, ← hfst2] at hwk
      have hPl : (missing f ks r.kidsL).length = (ks.filter (nfd f)).length := by have := congrArg List.length hfst2; simpa using this
      have hml : 0 < (missing f ks r.kidsL).length := List.length_pos_iff.2 hm
      have hls := len_cost (S0 ++ [(b, r, true)] ++ missing f ks r.kidsL)
      have hSl : (S0 ++ [(b, r, true)] ++ missing f ks r.kidsL).length = L4 := by
       rw [hlen, h1, ← hPl]; simp; omega
      have HNX := zh (show GsS w bs (cost (S0 ++ [(b, r, true)] ++ missing f ks r.kidsL)) (.slice A4 L4 c5) wr ∧ cost (S0 ++ [(b, r, true)] ++ missing f ks r.kidsL) < gk by
       refine ⟨⟨A4, c5, L4, f, m, S0 ++ [(b, r, true)] ++ missing f ks r.kidsL, rfl, by omega, hc5, hSl.symm, ?_, HG.out.mp, q1, rfl, by omega, HG.out.bl, HG.out.lt⟩, by omega⟩
       have e1 : (S0 ++ [(b, r, true)] ++ missing f ks r.kidsL).map (fun e : Ent => ptr e.1) = (S0 ++ [(b, r, fl)]).map (fun e : Ent => ptr e.1) ++ (missing f ks r.kidsL).map (fun e : Ent => ptr e.1) := by simp
       rw [e1]; exact hwk)
      have hne : ((L4 : Int) == (L : Int)) = false := by
       have : L < L4 := by omega
       simp; omega
      generalize hkk : cost (S0 ++ [(b, r, true)] ++ missing f ks r.kidsL) = kk at HNX
      clear h1 h2 h3 h4 h5 h6 h7 h8 hks hfst hfst2 hm q1 q2 hlen hwk hPl hml hls hSl hkk
      go_wp2
      go_roundg kk
      case measure => exact HNX.out.2
      case rel => exact HNX.out.1
end Go.Proofs.YtejdfpieblkapaaGreatDoor

/- Sets of positions as maps; joined. -/
namespace Go.Proofs.YtejdfpieblkapaaGreatDoor
open Lib renaming hid → zh
open Go.RowKit Go.Shelf

abbrev pv (p : Nat) : Value := .int .i64 (p : Int)
theorem pv_inj {p q : Nat} (h : pv p = pv q) : p = q := by
 injection h with _ h
 omega
def PsF (f : Value → Option Value) (l : List Nat) : Prop := ∀ k v, f k = some v ↔ v = .agg #[] ∧ ∃ p ∈ l, k = pv p
def PsAt (w : World) (b : Nat) (l : List Nat) : Prop := l.Nodup ∧ ∃ f, MpAt w b IntK f l.length ∧ PsF f l
def PsO (w : World) : Option Nat → List Nat → Prop
 | none, l => l = []
 | some b, l => PsAt w b l
theorem PsAt.lt {w : World} {b : Nat} {l : List Nat} (h : PsAt w b l) : b < w.heap.size := by
 obtain ⟨_, f, h1, _⟩ := h
 exact h1.lt
theorem PsAt.keep {w w' : World} {b : Nat} {l : List Nat} (h : PsAt w b l) (hk : w'.heap[b]? = w.heap[b]?) : PsAt w' b l := by
 obtain ⟨h0, f, h1, h2⟩ := h
 exact ⟨h0, f, h1.keep hk (fun _ hv => hv), h2⟩
theorem PsAt.perm {w : World} {b : Nat} {l l' : List Nat} (h : PsAt w b l) (hp : l.Perm l') : PsAt w b l' := by
 obtain ⟨h0, f, h1, h2⟩ := h
 refine ⟨hp.nodup_iff.1 h0, f, by rw [← hp.length_eq]; exact h1, fun k v => ?_⟩
 rw [h2 k v]
 constructor
 ·rintro ⟨a, p, hp', e⟩; exact ⟨a, p, hp.mem_iff.1 hp', e⟩
 ·rintro ⟨a, p, hp', e⟩; exact ⟨a, p, hp.mem_iff.2 hp', e⟩
theorem PsAt.isMap {w : World} {b : Nat} {l : List Nat} (h : PsAt w b l) : ∃ es clock, w.heap[b]? = some (.map es clock) := by
 obtain ⟨_, f, ⟨es, clock, hb, _⟩, _⟩ := h
 exact ⟨es, clock, hb⟩
theorem PsAt.put {w w' : World} {b : Nat} {l : List Nat} {f f' : Value → Option Value} {p : Nat} (h0 : l.Nodup) (h2 : PsF f l) (hp : p ∉ l) (hm : MpAt w' b IntK f' (if (f (pv p)).isSome = true then l.length else l.length + 1)) (h3 : f' (pv p) = some (.agg #[])) (h4 : ∀ k, k ≠ pv p → f' k = f k) : PsAt w' b (l ++ [p]) := by
 have hn : (f (pv p)).isSome = false := by
  cases hf : f (pv p) with
  | none => rfl
  | some v =>
   obtain ⟨_, q, hq, e⟩ := (h2 _ _).1 hf
   exact absurd (pv_inj e ▸ hq) hp
 rw [hn] at hm
 simp only [Bool.false_eq_true, if_false] at hm
 refine ⟨List.nodup_append.2 ⟨h0, by simp, fun a ha b hb => by simp only [List.mem_singleton] at hb; subst hb; exact fun e => hp (e ▸ ha)⟩, f', by rw [List.length_append]; exact hm, fun k v => ?_⟩
 by_cases hk : k = pv p
 ·subst hk
  rw [h3]
  simp only [Option.some.injEq]
  constructor
  ·rintro rfl; exact ⟨rfl, p, by simp, rfl⟩
  ·rintro ⟨rfl, _⟩; rfl
 ·rw [h4 k hk, h2]
  constructor
  ·rintro ⟨a, q, hq, e⟩; exact ⟨a, q, by simp [hq], e⟩
  ·rintro ⟨a, q, hq, e⟩
   rcases List.mem_append.1 hq with hq | hq
   ·exact ⟨a, q, hq, e⟩
   ·simp only [List.mem_singleton] at hq; subst hq; exact absurd e hk
theorem PsF.shape {f : Value → Option Value} {l : List Nat} (h : PsF f l) : ∀ k v, f k = some v → ∃ (x : Nat) (y : Unit), k = pv x ∧ v = (fun _ : Unit => Value.agg #[]) y := fun k v hk => by
 obtain ⟨rfl, p, _, rfl⟩ := (h k v).1 hk
 exact ⟨p, (), rfl, rfl⟩
theorem run_len_map {P : Program} {w : World} {b n : Nat} {Kd : Value → Prop} {f : Value → Option Value} (h : MpAt w b Kd f n) {t k e : TypeId} (ht : P.underlying t = some (.map k e)) (ty : TypeId) : (Builtin.len_ #[t] ty #[.map (some b)]).run P w = .ok (.int .i64 n) w := by
 obtain ⟨es, clock, hb, _, _, hs, _⟩ := h
 simp [Builtin.len_, run_underlying ht, MapKept.run_getObj_map hb, goInt, Result.andThen, hs]
theorem wpList_mp_len {P : Program} (w : World) {ops : Array Oper} {rest : List Oper} {o : Oper} {a : Act} {Q : Exit → Act → World → Prop} (hg : o.guard = none) (m : Operand) (t : TypeId) (hop : o.op = Op.call { callee := Callee.builtin Builtin.len, args := #[m], argTypes := #[t] }) {k e : TypeId} (ht : P.underlying t = some (.map k e))
  {b n : Nat} {Kd : Value → Prop} {f : Value → Option Value} (hm : a.eval m = .map (some b)) (h : MpAt w b Kd f n) (hK : wpList P ops Q rest (a.put o.dst (.int .i64 n)) w) : wpList P ops Q (o :: rest) a w := by
 refine wpList_plain hg fun K' hK' => ?_
 unfold Oper.wp
 simp [execOp, hop, resolve, invoke, builtin, hm, run_len_map h ht o.type, Result.andThen]
 exact hK' _ _ hK
def PsI (w : World) (b r : Nat) (l dl : List Nat) : Prop := ∃ f, ItAt w b r IntK f l.length (dl.map pv) ∧ PsF f l ∧ l.Nodup
theorem PsI.sub {w : World} {b r : Nat} {l dl : List Nat} (h : PsI w b r l dl) : dl.Nodup ∧ ∀ p ∈ dl, p ∈ l := by
 obtain ⟨f, ⟨es, clock, since, seen, c0, _, _, _, _, _, _, _, _, _, hnd, _, h2⟩, h3, _⟩ := h
 refine ⟨(List.pairwise_map.1 hnd).imp (fun h e => h (by rw [e])), fun p hp => ?_⟩
 obtain ⟨v, hv⟩ := h2 (pv p) (List.mem_map.2 ⟨p, hp, rfl⟩)
 obtain ⟨_, q, hq, e⟩ := (h3 _ _).1 hv
 exact pv_inj e ▸ hq
theorem PsI.keep {w w' : World} {b r : Nat} {l dl : List Nat} (h : PsI w b r l dl) (hb : w'.heap[b]? = w.heap[b]?) (hr : w'.heap[r]? = w.heap[r]?) : PsI w' b r l dl ∧ w'.rangeLeft b r = w.rangeLeft b r := by
 obtain ⟨f, h1, h2, h3⟩ := h
 obtain ⟨h4, h5⟩ := h1.keep hb hr (fun _ hv => hv)
 exact ⟨⟨f, h4, h2, h3⟩, h5⟩
theorem PsI.lt {w : World} {b r : Nat} {l dl : List Nat} (h : PsI w b r l dl) : r ≠ b ∧ r < w.heap.size ∧ b < w.heap.size := by
 obtain ⟨f, h1, _⟩ := h
 exact ⟨h1.ne.1, h1.ne.2, h1.map.lt⟩
theorem PsI.not_cells {w : World} {b r : Nat} {l dl : List Nat} (h : PsI w b r l dl) : (∃ es clock, w.heap[b]? = some (.map es clock)) ∧ ∃ a b' c d, w.heap[r]? = some (.mapIter a b' c d) := by
 obtain ⟨f, ⟨es, clock, since, seen, c0, hb, _, _, _, _, hr, _⟩, _⟩ := h
 exact ⟨⟨es, clock, hb⟩, _, _, _, _, hr⟩
section
variable {P : Program} (w : World) {ops : Array Oper} {rest : List Oper} {o : Oper} {a : Act} {Q : Exit → Act → World → Prop}
theorem wpList_ps_range (hg : o.guard = none) (m : Operand) (t : TypeId) (hop : o.op = Op.range t m) {kt e : TypeId} (ht : P.underlying t = some (.map kt e)) {b : Nat} {l : List Nat} (hm : a.eval m = .map (some b)) (h : PsAt w b l) (R : Nat) (hR : w.heap.size = R)
  (hK : ∀ w', PsI w' b R l [] → Below R w w' → w'.heap.size = R + 1 → wpList P ops Q rest (a.put o.dst (.pointer (some ⟨R, 0, none⟩))) w') :
  wpList P ops Q (o :: rest) a w := by
 subst hR
 obtain ⟨h0, f, h1, h2⟩ := h
 exact wpList_mp_range w hg m t hop ht hm h1 (fun w' q1 q2 q3 => hK w' ⟨f, q1, h2, h0⟩ q2 q3)
theorem wpList_ps_next (hg : o.guard = none) (it : Operand) (hop : o.op = Op.next it false) {b r : Nat} {l dl : List Nat} (hit : a.eval it = .pointer (some ⟨r, 0, none⟩)) (h : PsI w b r l dl)
  (hDone : l.Perm dl → wpList P ops Q rest (a.put o.dst (.tuple #[.bool false])) w)
  (hMore : ∀ (p : Nat) (w' : World), p ∈ l → p ∉ dl → PsI w' b r l (dl ++ [p]) → w'.rangeLeft b r < w.rangeLeft b r → w.grownBy w' (some r) → w'.heap.size = w.heap.size →
   (Instr.entry (.pointer (some ⟨r, 0, none⟩))).run P w' = .ok (.tuple #[pv p, .agg #[]]) w' → wpList P ops Q rest (a.put o.dst (.tuple #[.bool true, pv p, .agg #[]])) w') :
  wpList P ops Q (o :: rest) a w := by
 have hsub := h.sub
 obtain ⟨f, h1, h2, h3⟩ := h
 refine wpList_mp_next w hg it hop pv (fun _ : Unit => Value.agg #[]) h2.shape hit h1 (fun hall => hDone ?_) (fun x _ w' q1 q2 q3 q4 q5 q6 q7 => hMore x w' ?_ ?_ ⟨f, by rw [List.map_append]; exact q3, h2, h3⟩ q4 q5 q6 q7)
 ·refine (List.perm_ext_iff_of_nodup h3 hsub.1).2 (fun p => ⟨fun hp => ?_, hsub.2 p⟩)
  have := hall (pv p) _ ((h2 _ _).2 ⟨rfl, p, hp, rfl⟩)
  obtain ⟨q, hq, e⟩ := List.mem_map.1 this
  exact pv_inj e ▸ hq
 ·obtain ⟨_, q, hq, e⟩ := (h2 _ _).1 q1
  exact pv_inj e ▸ hq
 ·intro hd
  exact q2 (List.mem_map.2 ⟨x, hd, rfl⟩)
theorem wpList_ps_put (hg : o.guard = none) (m x v : Operand) (t : TypeId) (hop : o.op = Op.mapUpdate t m x v) {kt e : TypeId} (hkt : P.underlying kt = some (.int .i64)) (ht : P.underlying t = some (.map kt e)) {b : Nat} {l : List Nat} (hm : a.eval m = .map (some b)) (h : PsAt w b l) (p : Nat) (hx : a.eval x = pv p) (hv : a.eval v = .agg #[]) (hp : p ∉ l)
  (hK : ∀ w', PsAt w' b (l ++ [p]) → w.grownBy w' (some b) → wpList P ops Q rest (a.put o.dst undef) w') :
  wpList P ops Q (o :: rest) a w := by
 obtain ⟨h0, f, h1, h2⟩ := h
 exact wpList_mp_store w hg m x v t hop (keyIn_int hkt) ht hm h1 (pv p) (.agg #[]) hx hv ⟨_, rfl⟩ (fun w' f' q1 q2 q3 q4 => hK w' (PsAt.put (w := w) h0 h2 hp q1 q2 q3) q4.grown)
end

set_option maxRecDepth 100000 in
set_option maxHeartbeats 2000000 in
theorem joined_le (w : World) (s t : Nat) (ls lt : List Nat) (hs : PsAt w s ls) (ht : PsAt w t lt) (hst : s ≠ t) (hd : ∀ p ∈ lt, p ∉ ls) (hle : lt.length ≤ ls.length) (hl : ls.length ≤ 1000000) :
  Calls Tryz.prog 147 #[.map (some s), .map (some t)] w fun e w' => e = .returned (.map (some s)) ∧ PsAt w' s (ls ++ lt) ∧ Kb (fun i => i = s) w w' := by
 have HS := zh hs; have HT := zh ht; have HD := zh hd; have HE := zh hst
 obtain ⟨_, fs, ms, _⟩ := hs
 obtain ⟨_, ft, mt, _⟩ := ht
 have hsl := HS.out.lt; have htl := HT.out.lt
 obtain ⟨n1, hn1⟩ : ∃ n1, n1 = ls.length := ⟨_, rfl⟩
 obtain ⟨n2, hn2⟩ : ∃ n2, n2 = lt.length := ⟨_, rfl⟩
 rw [← hn1] at ms hle hl
 rw [← hn2] at mt hle
 have HM1 := zh ms; have HM2 := zh mt
 have hlt : ¬ (n1 : Int) < n2 := by omega
 clear ms mt hn1 hn2 hd hst
 go_enter Tryz.func147, Tryz.ntmps147
 go_wp2_with (first
  | (at_len; refine wpList_mp_len _ rfl _ 140 rfl Tryz.underlying140 rfl HM1.out ?_)
  | (at_len; refine wpList_mp_len _ rfl _ 140 rfl Tryz.underlying140 rfl HM2.out ?_)
  | (at_range; refine wpList_ps_range _ rfl _ 140 rfl Tryz.underlying140 rfl HT.out w.heap.size rfl ?_; intro w0 hi0 hb0 hs0))
 try go_frame
 have hRs : w.heap.size ≠ s := fun e => by omega
 obtain ⟨R, hR⟩ : ∃ R, R = w.heap.size := ⟨_, rfl⟩
 rw [← hR] at hi0 hb0 hs0 hRs ⊢
 have HST := zh (show ∃ dl, PsI w0 t R lt dl ∧ PsAt w0 s (ls ++ dl) ∧ Kb (fun i => i = s) w w0 from ⟨[], hi0, by rw [List.append_nil]; exact HS.out.keep (hb0.block s (by omega)), Kb.of_below _ (by rw [hR] at hb0; exact hb0)⟩)
 have hsR : s < R := by omega
 have HRR := zh hR
 clear hi0 hb0 hs0 hlt hR
 go_loopw [5] (fun _ wr => Hid (∃ dl, PsI wr t R lt dl ∧ PsAt wr s (ls ++ dl) ∧ Kb (fun i => i = s) w wr)) (fun _ wr => wr.rangeLeft t R)
 case atStart => exact HST.out
 case round =>
  obtain ⟨dl, hi, hp, hk⟩ := hrel.out
  have HI := zh hi; have HP := zh hp; have HK := zh hk
  clear hi hp hk hrel
  go_wp2_with (at_next; refine wpList_ps_next _ rfl _ rfl rfl HI.out ?_ ?_)
  ·intro hall
   go_wp2
   go_ret
   exact ⟨rfl, HP.out.perm (List.Perm.append_left _ hall.symm) , HK.out⟩
  ·intro p w1 hp1 hp2 hi1 hlt1 hg1 hs1 hen
   have hsz := HI.out.lt
   have HP1 := zh (HP.out.keep (hg1.block s HP.out.lt (fun e => hRs (Option.some.inj e).symm)))
   have HI1 := zh hi1
   have HK1 := zh (And.intro hlt1 (And.intro hg1 hs1))
   have HNP := zh (show p ∉ ls ++ dl from fun h => by
    rcases List.mem_append.1 h with h | h
    ·exact HD.out p hp1 h
    ·exact hp2 h)
   clear hi1 hlt1 hg1 hs1 hp1 hp2 hsz
   go_wp2_with (at_mapUpdate; refine wpList_ps_put _ rfl _ _ _ 140 rfl Tryz.underlying3 Tryz.underlying140 rfl HP1.out p rfl rfl HNP.out ?_; intro w2 hput hg2; (try go_frame))
   obtain ⟨q1, q2, q3⟩ := HK1.out
   obtain ⟨k1, k2, k3⟩ := HI1.out.lt
   obtain ⟨k4, k5⟩ := HI1.out.keep (hg2.block _ k3 (fun e => HE.out (Option.some.inj e).symm)) (hg2.block _ k2 (fun e => hRs (Option.some.inj e)))
   have HN := zh (show (∃ dl, PsI w2 t R lt dl ∧ PsAt w2 s (ls ++ dl) ∧ Kb (fun i => i = s) w w2) ∧ w2.rangeLeft t R < wr.rangeLeft t R from ⟨⟨dl ++ [p], k4, by rw [← List.append_assoc]; exact hput, (HK.out.trans (Kb.of_grown q2) (fun i hi h => by have h' : i = R := Option.some.inj h; have := HRR.out; omega)).trans (Kb.of_grown hg2) (fun i _ h => Option.some.inj h)⟩, by rw [k5]; exact q1⟩)
   clear hput hg2 q1 q2 q3 k1 k2 k3 k4 k5
   go_wp2
   go_roundw
   case rel => exact HN.out.1
   case measure => exact HN.out.2
set_option maxRecDepth 100000 in
set_option maxHeartbeats 2000000 in
theorem joined_gt (w : World) (s t : Nat) (ls lt : List Nat) (hs : PsAt w s ls) (ht : PsAt w t lt) (hst : s ≠ t) (hd : ∀ p ∈ lt, p ∉ ls) (hle : ls.length < lt.length) (hl : lt.length ≤ 1000000) :
  Calls Tryz.prog 147 #[.map (some s), .map (some t)] w fun e w' => e = .returned (.map (some t)) ∧ PsAt w' t (ls ++ lt) ∧ Kb (fun i => i = t) w w' := by
 have HS := zh hs; have HT := zh ht; have HD := zh hd; have HE := zh hst
 obtain ⟨_, fs, ms, _⟩ := hs
 obtain ⟨_, ft, mt, _⟩ := ht
 have hsl := HS.out.lt; have htl := HT.out.lt
 obtain ⟨n1, hn1⟩ : ∃ n1, n1 = ls.length := ⟨_, rfl⟩
 obtain ⟨n2, hn2⟩ : ∃ n2, n2 = lt.length := ⟨_, rfl⟩
 rw [← hn1] at ms hle
 rw [← hn2] at mt hle hl
 have HM1 := zh ms; have HM2 := zh mt
 have hlt : (n1 : Int) < n2 := by omega
 clear ms mt hn1 hn2 hd hst
 go_enter Tryz.func147, Tryz.ntmps147
 go_wp2_with (first
  | (at_len; refine wpList_mp_len _ rfl _ 140 rfl Tryz.underlying140 rfl HM1.out ?_)
  | (at_len; refine wpList_mp_len _ rfl _ 140 rfl Tryz.underlying140 rfl HM2.out ?_)
  | (at_range; refine wpList_ps_range _ rfl _ 140 rfl Tryz.underlying140 rfl HS.out w.heap.size rfl ?_; intro w0 hi0 hb0 hs0))
 try go_frame
 have hRs : w.heap.size ≠ t := fun e => by omega
 obtain ⟨R, hR⟩ : ∃ R, R = w.heap.size := ⟨_, rfl⟩
 rw [← hR] at hi0 hb0 hs0 hRs ⊢
 have HST := zh (show ∃ dl, PsI w0 s R ls dl ∧ PsAt w0 t (lt ++ dl) ∧ Kb (fun i => i = t) w w0 from ⟨[], hi0, by rw [List.append_nil]; exact HT.out.keep (hb0.block t (by omega)), Kb.of_below _ (by rw [hR] at hb0; exact hb0)⟩)
 have hsR : t < R := by omega
 have HRR := zh hR
 clear hi0 hb0 hs0 hlt hR
 go_loopw [5] (fun _ wr => Hid (∃ dl, PsI wr s R ls dl ∧ PsAt wr t (lt ++ dl) ∧ Kb (fun i => i = t) w wr)) (fun _ wr => wr.rangeLeft s R)
 case atStart => exact HST.out
 case round =>
  obtain ⟨dl, hi, hp, hk⟩ := hrel.out
  have HI := zh hi; have HP := zh hp; have HK := zh hk
  clear hi hp hk hrel
  go_wp2_with (at_next; refine wpList_ps_next _ rfl _ rfl rfl HI.out ?_ ?_)
  ·intro hall
   go_wp2
   go_ret
   exact ⟨rfl, HP.out.perm (List.Perm.append_left _ hall.symm) |>.perm List.perm_append_comm, HK.out⟩
  ·intro p w1 hp1 hp2 hi1 hlt1 hg1 hs1 hen
   have hsz := HI.out.lt
   have HP1 := zh (HP.out.keep (hg1.block t HP.out.lt (fun e => hRs (Option.some.inj e).symm)))
   have HI1 := zh hi1
   have HK1 := zh (And.intro hlt1 (And.intro hg1 hs1))
   have HNP := zh (show p ∉ lt ++ dl from fun h => by
    rcases List.mem_append.1 h with h | h
    ·exact HD.out p h hp1
    ·exact hp2 h)
   clear hi1 hlt1 hg1 hs1 hp1 hp2 hsz
   go_wp2_with (at_mapUpdate; refine wpList_ps_put _ rfl _ _ _ 140 rfl Tryz.underlying3 Tryz.underlying140 rfl HP1.out p rfl rfl HNP.out ?_; intro w2 hput hg2; (try go_frame))
   obtain ⟨q1, q2, q3⟩ := HK1.out
   obtain ⟨k1, k2, k3⟩ := HI1.out.lt
   obtain ⟨k4, k5⟩ := HI1.out.keep (hg2.block _ k3 (fun e => HE.out (Option.some.inj e))) (hg2.block _ k2 (fun e => hRs (Option.some.inj e)))
   have HN := zh (show (∃ dl, PsI w2 s R ls dl ∧ PsAt w2 t (lt ++ dl) ∧ Kb (fun i => i = t) w w2) ∧ w2.rangeLeft s R < wr.rangeLeft s R from ⟨⟨dl ++ [p], k4, by rw [← List.append_assoc]; exact hput, (HK.out.trans (Kb.of_grown q2) (fun i hi h => by have h' : i = R := Option.some.inj h; have := HRR.out; omega)).trans (Kb.of_grown hg2) (fun i _ h => Option.some.inj h)⟩, by rw [k5]; exact q1⟩)
   clear hput hg2 q1 q2 q3 k1 k2 k3 k4 k5
   go_wp2
   go_roundw
   case rel => exact HN.out.1
   case measure => exact HN.out.2
theorem joined_any (w : World) (s t : Nat) (ls lt : List Nat) (hs : PsAt w s ls) (ht : PsAt w t lt) (hst : s ≠ t) (hd : ∀ p ∈ lt, p ∉ ls) (hl : ls.length ≤ 1000000) (hl2 : lt.length ≤ 1000000) :
  Calls Tryz.prog 147 #[.map (some s), .map (some t)] w fun e w' => ∃ u, e = .returned (.map (some u)) ∧ (u = s ∨ u = t) ∧ PsAt w' u (ls ++ lt) ∧ Kb (fun i => i = s ∨ i = t) w w' := by
 rcases Nat.lt_or_ge ls.length lt.length with h | h
 ·refine (joined_gt w s t ls lt hs ht hst hd h hl2).mono ?_
  rintro e w' ⟨rfl, h1, h2⟩
  exact ⟨t, rfl, .inr rfl, h1, h2.wider (fun i h => .inr h)⟩
 ·refine (joined_le w s t ls lt hs ht hst hd h hl).mono ?_
  rintro e w' ⟨rfl, h1, h2⟩
  exact ⟨s, rfl, .inl rfl, h1, h2.wider (fun i h => .inl h)⟩
end Go.Proofs.YtejdfpieblkapaaGreatDoor

/- The builder's state; behind. -/
namespace Go.Proofs.YtejdfpieblkapaaGreatDoor
open Go.RowKit Go.Shelf

structure BP where
 bb : Nat
 mb : Nat
 gb : Nat
 cnt : Nat
 A : Option Addr
 c : Nat
 fv : Value
 lv : Value
 ev : Value
 gs : Nat → Nat
abbrev nwd (n : Nat) : Nat := (n + 63) / 64
def FoAt (w : World) (A : Option Addr) (cnt : Nat) (gs : Nat → Nat) (X : Nat → Prop) (F : Nat → Nat → Bool) : Prop :=
 (∀ p, p < cnt → ∃ fg ws cs, A = some ⟨fg, 0, none⟩ ∧ w.cell? ⟨fg, p, none⟩ = some (bsV (gs p) (nwd cnt)) ∧ w.heap[fg]? = some (.cells cs 87 (0, 0)) ∧ ¬ X fg ∧ BsAt w (gs p) ws ∧ ws.length = nwd cnt ∧ (∀ q, bt ws q = F p q) ∧ X (gs p)) ∧ ∀ p p', p < cnt → p' < cnt → gs p = gs p' → p = p'
def flatW (l : List Ws) : List Value := l.flatMap fun s => [.int .u64 s.a, .int .u64 s.b, .int .u64 s.c, .int .u64 s.d]
def XT (t : TypeId) : Prop := t = 79 ∨ t = 100 ∨ t = 3 ∨ t = 99
structure Bd (w : World) (p : BP) (X : Nat → Prop) (ss : List Ws) (rl : List Nat) (F : Nat → Nat → Bool) (sv rv : Value) : Prop where
 bld : w.heap[p.bb]? = some (.cells #[ptr p.mb, .map (some p.gb)] 83 (0, 0))
 mach : w.heap[p.mb]? = some (.cells #[sv, rv, .slice p.A p.cnt p.c, p.fv, p.lv, p.ev] 79 (0, 0))
 sets : w.ownsRow 0 100 4 sv ss.length (flatW ss)
 rules : w.ownsRow 0 3 1 rv rl.length (rl.map pv)
 fo : FoAt w p.A p.cnt p.gs X F
 xs : ∀ q, sv.ownBlock = some q → X q
 xr : ∀ q, rv.ownBlock = some q → X q
 xm : X p.mb
 xb : ¬ X p.bb
 xg : ¬ X p.gb
 cap : p.cnt ≤ p.c ∧ p.c ≤ 9223372036854775807
 xt : ∀ i, X i → ∃ cs t, w.heap[i]? = some (.cells cs t (0, 0)) ∧ XT t
theorem Bd.xl {w : World} {p : BP} {X : Nat → Prop} {ss : List Ws} {rl : List Nat} {F : Nat → Nat → Bool} {sv rv : Value} (h : Bd w p X ss rl F sv rv) : ∀ i, X i → i < w.heap.size := fun i hi => by
 obtain ⟨cs, t, h1, _⟩ := h.xt i hi
 exact lt_of_heap h1
theorem FoAt.kb {w w' : World} {A : Option Addr} {cnt : Nat} {gs : Nat → Nat} {X : Nat → Prop} {F : Nat → Nat → Bool} {ex : Nat → Prop} (h : FoAt w A cnt gs X F) (hk : Kb ex w w') (hx : ∀ i cs t fz, ex i → w.heap[i]? = some (.cells cs t fz) → t ≠ 87 ∧ t ≠ 99) : FoAt w' A cnt gs X F := by
 obtain ⟨h1, h2⟩ := h
 refine ⟨fun p hp => ?_, h2⟩
 obtain ⟨fg, ws, cs, a1, a2, a3, a4, a5, a6, a7, a8⟩ := h1 p hp
 have hf := hk.block fg (lt_of_heap a3) (fun e => (hx fg _ _ _ e a3).1 rfl)
 exact ⟨fg, ws, cs, a1, by rw [Lib.cell_of_heap (hf.trans a3), ← Lib.cell_of_heap a3]; exact a2, hf.trans a3, a4, a5.keep hk (fun e => (hx _ _ _ _ e a5.1).2 rfl), a6, a7, a8⟩
theorem FoAt.below {w w' : World} {A : Option Addr} {cnt : Nat} {gs : Nat → Nat} {X : Nat → Prop} {F : Nat → Nat → Bool} (h : FoAt w A cnt gs X F) (hb : Below w.heap.size w w') : FoAt w' A cnt gs X F :=
 h.kb (Kb.of_below (fun _ => False) hb) (fun _ _ _ _ h _ => h.elim)
theorem Bd.below {w w' : World} {p : BP} {X : Nat → Prop} {ss : List Ws} {rl : List Nat} {F : Nat → Nat → Bool} {sv rv : Value} (h : Bd w p X ss rl F sv rv) (hb : Below w.heap.size w w') : Bd w' p X ss rl F sv rv :=
 ⟨(hb.block _ (lt_of_heap h.bld)).trans h.bld, (hb.block _ (lt_of_heap h.mach)).trans h.mach, own_below h.sets hb, own_below h.rules hb, h.fo.below hb, h.xs, h.xr, h.xm, h.xb, h.xg, h.cap, fun i hi => by obtain ⟨cs, t, h1, h2⟩ := h.xt i hi; exact ⟨cs, t, (hb.block i (lt_of_heap h1)).trans h1, h2⟩⟩
theorem Bd.walk {w w' : World} {p : BP} {X : Nat → Prop} {ss : List Ws} {rl : List Nat} {F : Nat → Nat → Bool} {sv rv : Value} {ex : Nat → Prop} (h : Bd w p X ss rl F sv rv) (hk : Kb ex w w') (hx : ∀ i, ex i → ∀ (cs : Array Value) (t : TypeId) (fz : Nat × Nat), w.heap[i]? ≠ some (.cells cs t fz)) : Bd w' p X ss rl F sv rv := by
 have hty : ∀ (b : Nat) (cs : Array Value) (t : TypeId) (fz : Nat × Nat), w.heap[b]? = some (.cells cs t fz) → w'.heap[b]? = some (.cells cs t fz) := fun b cs t fz hb' => (hk.block b (lt_of_heap hb') (fun e => hx b e _ _ _ hb')).trans hb'
 refine ⟨hty _ _ _ _ h.bld, hty _ _ _ _ h.mach, own_kb h.sets hk (fun q hq e => ?_), own_kb h.rules hk (fun q hq e => ?_), h.fo.kb hk (fun i cs t fz e hi => absurd hi (hx i e _ _ _)), h.xs, h.xr, h.xm, h.xb, h.xg, h.cap, fun i hi => by obtain ⟨cs, t, h1, h2⟩ := h.xt i hi; exact ⟨cs, t, hty _ _ _ _ h1, h2⟩⟩
 ·obtain ⟨_, cs, h3⟩ := own_ty h.sets hq
  exact hx q e _ _ _ h3
 ·obtain ⟨_, cs, h3⟩ := own_ty h.rules hq
  exact hx q e _ _ _ h3
theorem Bd.join {w w' : World} {p : BP} {X : Nat → Prop} {ss : List Ws} {rl : List Nat} {F F' : Nat → Nat → Bool} {sv rv : Value} (h : Bd w p X ss rl F sv rv) {p0 : Nat} {us ws : List Nat}
  (hp : p0 < p.cnt) (hw : BsAt w (p.gs p0) ws) (hb : BsAt w' (p.gs p0) (jn ws us)) (hl : ws.length = nwd p.cnt) (hlu : us.length = nwd p.cnt) (hF0 : ∀ q, bt ws q = F p0 q) (hk : Kb (fun i => i = p.gs p0) w w') (hF : ∀ q, F' p0 q = (F p0 q || bt us q)) (hF2 : ∀ p1, p1 ≠ p0 → ∀ q, F' p1 q = F p1 q) : Bd w' p X ss rl F' sv rv := by
 obtain ⟨h1, h2⟩ := h.fo
 have hty : ∀ (b : Nat) (cs : Array Value) (t : TypeId) (fz : Nat × Nat), w.heap[b]? = some (.cells cs t fz) → t ≠ 99 → w'.heap[b]? = some (.cells cs t fz) := fun b cs t fz hb' ht => (hk.block b (lt_of_heap hb') (fun e => by
  rw [e] at hb'
  rw [hw.1] at hb'
  injection hb' with hb'
  injection hb' with _ e2
  exact ht e2.symm)).trans hb'
 refine ⟨hty _ _ _ _ h.bld (by decide), hty _ _ _ _ h.mach (by decide), own_kb h.sets hk (fun q hq e => ?_), own_kb h.rules hk (fun q hq e => ?_), ⟨fun p' hp' => ?_, h2⟩, h.xs, h.xr, h.xm, h.xb, h.xg, h.cap, fun i hi => by
  by_cases e : i = p.gs p0
  ·rw [e]; exact ⟨_, _, hb.1, .inr (.inr (.inr rfl))⟩
  ·obtain ⟨cs, t, h3, h4⟩ := h.xt i hi; exact ⟨cs, t, (hk.block i (lt_of_heap h3) e).trans h3, h4⟩⟩
 ·obtain ⟨_, cs, h3⟩ := own_ty h.sets hq
  rw [e, hw.1] at h3; cases h3
 ·obtain ⟨_, cs, h3⟩ := own_ty h.rules hq
  rw [e, hw.1] at h3; cases h3
 ·obtain ⟨fg, ws', cs, a1, a2, a3, a4, a5, a6, a7, a8⟩ := h1 p' hp'
  have hf := hty _ _ _ _ a3 (by decide)
  have hc : w'.cell? ⟨fg, p', none⟩ = some (bsV (p.gs p') (nwd p.cnt)) := by rw [Lib.cell_of_heap hf, ← Lib.cell_of_heap a3]; exact a2
  by_cases e : p' = p0
  ·subst e
   exact ⟨fg, jn ws us, cs, a1, hc, hf, a4, hb, by rw [jn_len _ _ (by rw [hl, hlu]), hl], fun q => by rw [bt_jn _ _ (by rw [hl, hlu]), hF0, hF], a8⟩
  ·refine ⟨fg, ws', cs, a1, hc, hf, a4, a5.keep hk (fun e' => e (h2 _ _ hp' hp e')), a6, fun q => by rw [a7, hF2 p' e], a8⟩
theorem Bd.cells {w : World} {p : BP} {X : Nat → Prop} {ss : List Ws} {rl : List Nat} {F : Nat → Nat → Bool} {sv rv : Value} (h : Bd w p X ss rl F sv rv) : w.cell? ⟨p.bb, 0, none⟩ = some (ptr p.mb) ∧ w.cell? ⟨p.mb, 2, none⟩ = some (.slice p.A p.cnt p.c) := by
 refine ⟨by rw [Lib.cell_of_heap h.bld]; rfl, by rw [Lib.cell_of_heap h.mach]; rfl⟩
def addF (F : Nat → Nat → Bool) (dl lf : List Nat) (p q : Nat) : Bool := F p q || (dl.contains p && lf.contains q)
theorem addF_nil (F : Nat → Nat → Bool) (lf : List Nat) : addF F [] lf = F := by
 funext p q; simp [addF]
theorem addF_snoc (F : Nat → Nat → Bool) (dl lf : List Nat) (p0 : Nat) : (∀ q, addF F (dl ++ [p0]) lf p0 q = (addF F dl lf p0 q || lf.contains q)) ∧ ∀ p1, p1 ≠ p0 → ∀ q, addF F (dl ++ [p0]) lf p1 q = addF F dl lf p1 q := by
 constructor
 ·intro q
  unfold addF
  have : (dl ++ [p0]).contains p0 = true := by simp
  rw [this]
  cases F p0 q <;> cases dl.contains p0 <;> cases lf.contains q <;> rfl
 ·intro p1 h q
  unfold addF
  have : (dl ++ [p0]).contains p1 = dl.contains p1 := by simp [h]
  rw [this]
theorem addF_perm (F : Nat → Nat → Bool) {dl dl' lf lf' : List Nat} (h : dl.Perm dl') (h' : lf.Perm lf') : addF F dl lf = addF F dl' lf' := by
 funext p q
 unfold addF
 rw [Bool.eq_iff_iff]
 simp only [Bool.or_eq_true, Bool.and_eq_true, List.contains_iff_mem, h.mem_iff, h'.mem_iff]

set_option maxRecDepth 100000 in
set_option maxHeartbeats 2000000 in
theorem behind_nil (w : World) (p : BP) (X : Nat → Prop) (ss : List Ws) (rl : List Nat) (F : Nat → Nat → Bool) (sv rv : Value) (h : Bd w p X ss rl F sv rv) (hc : p.cnt ≤ 1000000) :
  Calls Tryz.prog 122 #[ptr p.bb, .map none, .map none] w fun e w' => e = .returned (.tuple #[]) ∧ Bd w' p X ss rl F sv rv ∧ Below w.heap.size w w' := by
 obtain ⟨c0, c2⟩ := h.cells
 have HH := Lib.hid h
 have HN := Lib.hid (bs_new w p.cnt hc)
 clear h
 obtain ⟨bb, mb, gb, cnt, A, c, fv, lv, ev, gs⟩ := p
 simp only at c0 c2 hc
 have HN' := Lib.hid (show Calls Tryz.prog 49 #[.int .i64 cnt] w fun e w' => e = .returned (bsV w.heap.size (nwd cnt)) ∧ BsAt w' w.heap.size (List.replicate (nwd cnt) 0) ∧ Below w.heap.size w w' from HN.out)
 clear HN
 go_enter Tryz.func122, Tryz.ntmps122
 go_wp2_with fail
 refine HN'.out.mono ?_
 rintro e w1 ⟨rfl, _, hb⟩
 have hrg := run_range_nilMap (P := Tryz.prog) w1 140 3 145 Tryz.underlying140
 have hnx : ∀ ty, (Instr.next (.pointer (some ⟨w1.heap.size, 0, none⟩)) false ty).run Tryz.prog (w1.alloc (.mapIter none 0 #[] 0)) = _ := fun ty => run_next_nilMap w1 ty 0 0 #[]
 have hb2 : Below w.heap.size w (w1.alloc (.mapIter none 0 #[] 0)) := hb.alloc hb.size _
 have HB := Lib.hid hb2
 clear hb hb2
 go_wp2_with fail
 refine wp_loop_rounds 1 ?_
 rw [rounds_succ]
 go_upto_region 5 with fail
 generalize hw2 : w1.alloc (.mapIter none 0 #[] 0) = w2 at HB ⊢
 clear hrg hnx hw2
 have hrg := run_range_nilMap (P := Tryz.prog) w2 140 3 145 Tryz.underlying140
 have hnx : ∀ ty, (Instr.next (.pointer (some ⟨w2.heap.size, 0, none⟩)) false ty).run Tryz.prog (w2.alloc (.mapIter none 0 #[] 0)) = _ := fun ty => run_next_nilMap w2 ty 0 0 #[]
 go_wp2_with fail
 refine wp_loop_rounds 1 ?_
 rw [rounds_succ]
 go_wp2
 go_end0
 have hbe := HB.out.alloc HB.out.size (.mapIter none 0 #[] 0)
 exact ⟨rfl, HH.out.below hbe, hbe⟩
end Go.Proofs.YtejdfpieblkapaaGreatDoor

/- behind. -/
namespace Go.Proofs.YtejdfpieblkapaaGreatDoor
open Lib renaming hid → zh
open Go.RowKit Go.Shelf

theorem PsAt.below {w w' : World} {b : Nat} {l : List Nat} (h : PsAt w b l) (hb : Below w.heap.size w w') : PsAt w' b l := h.keep (hb.block _ h.lt)

set_option maxRecDepth 100000 in
set_option maxHeartbeats 4000000 in
theorem behind_some (w : World) (p : BP) (X : Nat → Prop) (ss : List Ws) (rl : List Nat) (F : Nat → Nat → Bool) (sv rv : Value) (ml mf : Nat) (ll lf : List Nat) (h : Bd w p X ss rl F sv rv) (hc : p.cnt ≤ 100000) (hl : PsAt w ml ll) (hf : PsAt w mf lf) (hll : ∀ q ∈ ll, q < p.cnt) (hlf : ∀ q ∈ lf, q < p.cnt) :
  Calls Tryz.prog 122 #[ptr p.bb, .map (some ml), .map (some mf)] w fun e w' => e = .returned (.tuple #[]) ∧ Bd w' p X ss rl (addF F ll lf) sv rv ∧ Kb X w w' := by
 obtain ⟨c0, c2⟩ := h.cells
 have HH := zh h; have HL := zh hl; have HF := zh hf; have HLL := zh hll; have HLF := zh hlf
 have HN := zh (bs_new w p.cnt (by omega))
 clear h hl hf hll hlf
 obtain ⟨bb, mb, gb, cnt, A, c, fv, lv, ev, gs⟩ := p
 simp only at c0 c2 hc HLL HLF
 have HN' := zh (show Calls Tryz.prog 49 #[.int .i64 cnt] w fun e w' => e = .returned (bsV w.heap.size (nwd cnt)) ∧ BsAt w' w.heap.size (List.replicate (nwd cnt) 0) ∧ Below w.heap.size w w' from HN.out)
 obtain ⟨nw, hnw⟩ : ∃ nw, nw = nwd cnt := ⟨_, rfl⟩
 rw [← hnw] at HN'
 have HNW := zh hnw
 clear HN hnw
 go_enter Tryz.func122, Tryz.ntmps122
 go_wp2_with fail
 refine HN'.out.mono ?_
 rintro e w1 ⟨rfl, hbs, hb⟩
 have HBS := zh hbs; have HB := zh hb
 have HF1 := zh (HF.out.below hb)
 obtain ⟨ab, hab⟩ : ∃ ab, ab = w.heap.size := ⟨_, rfl⟩
 rw [← hab] at HBS ⊢
 have HAB := zh hab
 obtain ⟨R, hR⟩ : ∃ R, w1.heap.size = R := ⟨_, rfl⟩
 have HRR := zh hR
 clear hbs hb hab
 go_wp2_with (at_range; refine wpList_ps_range _ rfl _ 140 rfl Tryz.underlying140 rfl HF1.out R hR ?_; intro w2 hi0 hb0 hs0)
 try go_frame
 have hab1 : ab < R := by rw [← hR]; exact lt_of_heap HBS.out.1
 have HST := zh (show ∃ dl ws, PsI w2 mf R lf dl ∧ BsAt w2 ab ws ∧ ws.length = nw ∧ (∀ q, bt ws q = dl.contains q) ∧ Below w.heap.size w w2 from ⟨[], List.replicate nw 0, hi0, HBS.out.below (hb0.mono (by rw [hR]; exact Nat.le_refl _)), List.length_replicate .., fun q => by rw [bt_none]; rfl, HB.out.trans (hb0.mono (by rw [← hR]; exact HB.out.size))⟩)
 clear hi0 hb0 hs0 hR
 go_loopw [7] (fun _ wr => Hid (∃ dl ws, PsI wr mf R lf dl ∧ BsAt wr ab ws ∧ ws.length = nw ∧ (∀ q, bt ws q = dl.contains q) ∧ Below w.heap.size w wr)) (fun _ wr => wr.rangeLeft mf R)
 case atStart => exact HST.out
 case round =>
  obtain ⟨dl, ws, hi, hbs, hwl, hwb, hbl⟩ := hrel.out
  have HI := zh hi; have HW := zh (And.intro hbs (And.intro hwl (And.intro hwb hbl)))
  clear hi hbs hwl hwb hbl hrel
  go_wp2_with (at_next; refine wpList_ps_next _ rfl _ rfl rfl HI.out ?_ ?_)
  ·intro hall
   have HAL := zh hall
   clear hall
   go_upto_region 5 with fail
   have HL2 := zh (HL.out.below (HW.out.2.2.2))
   have HBD := zh (HH.out.below HW.out.2.2.2)
   obtain ⟨R2, hR2⟩ : ∃ R2, wr.heap.size = R2 := ⟨_, rfl⟩
   have HRR2 := zh hR2
   go_wp2_with (at_range; refine wpList_ps_range _ rfl _ 140 rfl Tryz.underlying140 rfl HL2.out R2 hR2 ?_; intro w3 hi0 hb0 hs0)
   try go_frame
   have HST2 := zh (show ∃ dl2, PsI w3 ml R2 ll dl2 ∧ Bd w3 ⟨bb, mb, gb, cnt, A, c, fv, lv, ev, gs⟩ X ss rl (addF F dl2 lf) sv rv ∧ BsAt w3 ab ws ∧ Kb X w w3 from ⟨[], hi0, by rw [addF_nil]; exact HBD.out.below (hb0.mono (by rw [hR2]; exact Nat.le_refl _)), HW.out.1.below (hb0.mono (by rw [hR2]; exact Nat.le_refl _)), (Kb.of_below X (HW.out.2.2.2)).trans (Kb.of_below X (hb0.mono (by rw [hR2]; exact Nat.le_refl _))) (fun _ _ h => h)⟩)
   clear hi0 hb0 hs0 hR2
   go_loopw [8] (fun _ wz => Hid (∃ dl2, PsI wz ml R2 ll dl2 ∧ Bd wz ⟨bb, mb, gb, cnt, A, c, fv, lv, ev, gs⟩ X ss rl (addF F dl2 lf) sv rv ∧ BsAt wz ab ws ∧ Kb X w wz)) (fun _ wz => wz.rangeLeft ml R2)
   case atStart => exact HST2.out
   case round =>
    obtain ⟨dl2, hi2, hbd, hbs2, hkx⟩ := hrel.out
    have HI2 := zh hi2; have HW2 := zh (And.intro hbd (And.intro hbs2 hkx))
    clear hi2 hbd hbs2 hkx hrel
    go_wp2_with (at_next; refine wpList_ps_next _ rfl _ rfl rfl HI2.out ?_ ?_)
    ·intro hall2
     go_wp2
     go_end0
     exact ⟨rfl, by rw [addF_perm F hall2 (List.Perm.refl lf)]; exact HW2.out.1, HW2.out.2.2⟩
    ·intro p0 w4 hp1 hp2 hi1 hlt1 hg1 hs1 hen
     obtain ⟨hbd, hbs2, hkx⟩ := HW2.out
     have hpc : p0 < cnt := HLL.out p0 hp1
     obtain ⟨⟨es, clk, hm1⟩, ⟨ia, ib, ic, id, hm2⟩⟩ := HI2.out.not_cells
     have hbd4 := hbd.walk (Kb.of_grown hg1) (fun i hi cs t fz e => by have hi' : i = R2 := Option.some.inj hi; rw [hi', hm2] at e; cases e)
     obtain ⟨d0, d2⟩ := hbd4.cells
     obtain ⟨fg, ws0, cs, e1, e2, e3, e4, e5, e6, e7, e8⟩ := hbd4.fo.1 p0 hpc
     simp only at d0 d2 e1 e2 e5 e6
     subst e1
     have hgl : gs p0 < w.heap.size := by
      obtain ⟨_, ws0', _, _, _, _, _, h5, _⟩ := HH.out.fo.1 p0 hpc
      exact lt_of_heap h5.1
     have hbs4 := hbs2.keep (Kb.of_grown hg1) (fun e => by have e' : ab = R2 := Option.some.inj e; have h9 := hbs2.1; rw [e', hm2] at h9; cases h9)
     have hJ := bs_join w4 (gs p0) ab nw ws0 ws e5 hbs4 (by have := HAB.out; omega) (by rw [HNW.out, e6]) (by rw [e6, HW.out.2.1, HNW.out]) (by rw [HNW.out]; show (cnt + 63) / 64 ≤ 1000000; omega)
     rw [← HNW.out] at e2
     have HJ := zh hJ
     have HX := zh (And.intro hlt1 (And.intro hg1 (And.intro hs1 (And.intro hbd4 (And.intro hkx (And.intro hbs4 (And.intro e5 (And.intro e6 (And.intro e7 (And.intro hgl hi1))))))))))
     have hpi : (0 : Int) ≤ p0 := by omega
     have hpi2 : (p0 : Int) < cnt := by omega
     clear hJ hlt1 hg1 hs1 hbd4 hkx hbs4 e5 e6 e7 e8 hgl hi1 hbd hbs2 e3 e4 hm1 hm2 hp1 hp2
     go_wp2_with fail
     refine HJ.out.mono ?_
     rintro e w5 ⟨rfl, hj, hkj⟩
     obtain ⟨q1, q2, q3, q4, q5, q6, q7, q8, q9, q10, q11⟩ := HX.out
     obtain ⟨k1, k2, k3⟩ := q11.lt
     obtain ⟨⟨es, clk, hm1⟩, ⟨ia, ib, ic, id, hm2⟩⟩ := q11.not_cells
     obtain ⟨k4, k5⟩ := q11.keep (hkj.block _ k3 (fun e => by rw [e, q7.1] at hm1; cases hm1)) (hkj.block _ k2 (fun e => by rw [e, q7.1] at hm2; cases hm2))
     obtain ⟨f1, f2⟩ := addF_snoc F dl2 lf p0
     have hbl : ∀ q, bt ws q = lf.contains q := fun q => by
      rw [HW.out.2.2.1 q, Bool.eq_iff_iff, List.contains_iff_mem, List.contains_iff_mem]
      exact (HAL.out.mem_iff).symm
     have hbd5 := q4.join (us := ws) (ws := ws0) (F' := addF F (dl2 ++ [p0]) lf) (show p0 < cnt from hpc) q7 hj q8 (by rw [HW.out.2.1, HNW.out]) q9 hkj (fun q => by rw [f1, hbl]) f2
     have HN := zh (show (∃ dl2, PsI w5 ml R2 ll dl2 ∧ Bd w5 ⟨bb, mb, gb, cnt, some ⟨fg, 0, none⟩, c, fv, lv, ev, gs⟩ X ss rl (addF F dl2 lf) sv rv ∧ BsAt w5 ab ws ∧ Kb X w w5) ∧ w5.rangeLeft ml R2 < wr.rangeLeft ml R2 from ⟨⟨dl2 ++ [p0], k4, hbd5, q6.keep hkj (fun e => by have := HAB.out; omega), (q5.trans (Kb.of_grown q2) (fun i hi h => by
      have h' : i = R2 := Option.some.inj h
      have := HRR2.out
      have := HW.out.2.2.2.size
      omega)).trans hkj (fun i hi h => by
       obtain ⟨_, _, _, _, _, _, _, _, _, _, h8⟩ := HH.out.fo.1 p0 hpc
       rw [h]; exact h8)⟩, by rw [k5]; exact q1⟩)
     clear hj hkj q1 q2 q3 q4 q5 q6 q7 q8 q9 q10 q11 k1 k2 k3 k4 k5 hm1 hm2 f1 f2 hbl hbd5
     go_wp2
     go_roundw
     case rel => exact HN.out.1
     case measure => exact HN.out.2
  ·intro p0 w3 hp1 hp2 hi1 hlt1 hg1 hs1 hen
   obtain ⟨hbs, hwl, hwb, hbl⟩ := HW.out
   have hpc : p0 < cnt := HLF.out p0 hp1
   have hne : ab ≠ R := by omega
   have hb3 := hbs.keep (Kb.of_grown hg1) (fun e => hne (Option.some.inj e))
   have hq : p0 / 64 < ws.length := by rw [hwl, HNW.out]; show p0 / 64 < (cnt + 63) / 64; omega
   have HA := zh (bs_add w3 ab p0 nw ws hb3 hwl.symm hq (by omega))
   have HI1 := zh hi1
   have HX := zh (And.intro hlt1 (And.intro hg1 (And.intro hs1 (And.intro hwb (And.intro hbl (And.intro hwl hq))))))
   clear hp1 hp2 hi1 hlt1 hg1 hs1 hbs hwl hwb hbl hne hb3
   go_wp2_with fail
   refine HA.out.mono ?_
   rintro e w4 ⟨rfl, hb4, hk4⟩
   obtain ⟨q1, q2, q3, q4, q5, q6, q7⟩ := HX.out
   obtain ⟨k1, k2, k3⟩ := HI1.out.lt
   obtain ⟨⟨es, clk, hm1⟩, ⟨ia, ib, ic, id, hm2⟩⟩ := HI1.out.not_cells
   have hne1 : mf ≠ ab := fun e => by
    have h1 := (hb4.1)
    have h2 := HBS.out.1
    rw [e] at hm1
    have h3 := HI1.out.lt
    have h4 := HF1.out.lt
    have h5 := HF.out.lt
    have := HAB.out
    omega
   obtain ⟨k4, k5⟩ := HI1.out.keep (hk4.block _ k3 hne1) (hk4.block _ k2 (fun e => by omega))
   have HN := zh (show (∃ dl ws, PsI w4 mf R lf dl ∧ BsAt w4 ab ws ∧ ws.length = nw ∧ (∀ q, bt ws q = dl.contains q) ∧ Below w.heap.size w w4) ∧ w4.rangeLeft mf R < wr.rangeLeft mf R from ⟨⟨dl ++ [p0], _, k4, hb4, by rw [List.length_set]; exact q6, fun q => by rw [bt_add ws p0 q q7, q4]; simp [Bool.or_comm, eq_comm], (q5.grown q2 q5.size (fun j hj => by have := Option.some.inj hj; have := HRR.out; have := HB.out.size; omega)).trans (hk4.below (by have := q5.size; omega) (fun i hi => by rw [hi, HAB.out]; exact Nat.le_refl _))⟩, by rw [k5]; exact q1⟩)
   clear hb4 hk4 q1 q2 q3 q4 q5 q6 q7 k1 k2 k3 k4 k5 hm1 hm2
   go_wp2
   go_roundw
   case rel => exact HN.out.1
   case measure => exact HN.out.2
end Go.Proofs.YtejdfpieblkapaaGreatDoor

/- A new position. -/
namespace Go.Proofs.YtejdfpieblkapaaGreatDoor
open Go.RowKit Go.Shelf

set_option maxHeartbeats 1000000 in
theorem len_any (w : World) (mb : Nat) (A : Option Addr) (n c : Nat) (h : w.cell? ⟨mb, 0, none⟩ = some (.slice A n c)) : Calls Tryz.prog 17 #[ptr mb] w fun e w' => e = .returned (.int .i64 n) ∧ w' = w := by
 go_enter Tryz.func17, Tryz.ntmps17
 go_wp2
 go_ret
 exact ⟨rfl, rfl⟩
set_option maxHeartbeats 1000000 in
theorem rules_any (w : World) (mb : Nat) (A : Option Addr) (n c : Nat) (h : w.cell? ⟨mb, 5, none⟩ = some (.slice A n c)) : Calls Tryz.prog 18 #[ptr mb] w fun e w' => e = .returned (.int .i64 n) ∧ w' = w := by
 go_enter Tryz.func18, Tryz.ntmps18
 go_wp2
 go_ret
 exact ⟨rfl, rfl⟩
theorem FoAt.x {w : World} {A : Option Addr} {cnt : Nat} {gs : Nat → Nat} {X X' : Nat → Prop} {F : Nat → Nat → Bool} (h : FoAt w A cnt gs X F) (hx : ∀ i ws, BsAt w i ws → X i → X' i) (hx2 : ∀ i cs, w.heap[i]? = some (.cells cs 87 (0, 0)) → X' i → X i) : FoAt w A cnt gs X' F := by
 refine ⟨fun p hp => ?_, h.2⟩
 obtain ⟨fg, ws, cs, a1, a2, a3, a4, a5, a6, a7, a8⟩ := h.1 p hp
 exact ⟨fg, ws, cs, a1, a2, a3, fun e => a4 (hx2 fg _ a3 e), a5, a6, a7, hx _ _ a5 a8⟩
theorem Bd.sets_push {w wa w6 : World} {p : BP} {X : Nat → Prop} {ss : List Ws} {rl : List Nat} {F : Nat → Nat → Bool} {sv rv : Value} {s : Ws} {gg n1 cap : Nat} (h : Bd w p X ss rl F sv rv) (hgb : ∃ es clk, w.heap[p.gb]? = some (.map es clk)) (hb : Below w.heap.size w wa)
  (hown : w6.ownsRow 0 100 4 (.slice (some ⟨gg, 0, none⟩) n1 cap) n1 (flatW ss ++ [.int .u64 s.a, .int .u64 s.b, .int .u64 s.c, .int .u64 s.d])) (hn1 : n1 = ss.length + 1) (hg : wa.grownBy w6 sv.ownBlock) (hat : sv.ownBlock = some gg ∨ w.heap.size ≤ gg) :
  Bd (w6.setCell ⟨p.mb, 0, none⟩ (.slice (some ⟨gg, 0, none⟩) n1 cap)) p (fun i => (X i ∧ some i ≠ sv.ownBlock) ∨ i = gg) (ss ++ [s]) rl F (.slice (some ⟨gg, 0, none⟩) n1 cap) rv ∧ Kb X w (w6.setCell ⟨p.mb, 0, none⟩ (.slice (some ⟨gg, 0, none⟩) n1 cap)) ∧ (∀ i, i < w.heap.size → ((X i ∧ some i ≠ sv.ownBlock) ∨ i = gg) → X i) := by
 have hA := h.below hb
 have hkg := Kb.of_grown hg
 have hty : ∀ (b : Nat) (cs : Array Value) (t : TypeId) (fz : Nat × Nat), wa.heap[b]? = some (.cells cs t fz) → t ≠ 100 → w6.heap[b]? = some (.cells cs t fz) := fun b cs t fz hb' ht => (hg.block b (lt_of_heap hb') (own_not hA.sets hb' ht)).trans hb'
 have h1 := hty _ _ _ _ hA.bld (by decide)
 have h2 := hty _ _ _ _ hA.mach (by decide)
 obtain ⟨_, cg, h3⟩ := own_ty hown (g := gg) rfl
 have hset := Kb.setCell w6 ⟨p.mb, 0, none⟩ (.slice (some ⟨gg, 0, none⟩) n1 cap)
 have hgm : gg ≠ p.mb := fun e => by rw [e, h2] at h3; cases h3
 have hbm : p.bb ≠ p.mb := fun e => by rw [e, h2] at h1; cases h1
 have hr6 : w6.ownsRow 0 3 1 rv rl.length (rl.map pv) := own_kb hA.rules hkg (fun q hq e => by
  obtain ⟨_, cs, h4⟩ := own_ty hA.rules hq
  obtain ⟨_, cs', h5⟩ := own_ty hA.sets e.symm
  rw [h4] at h5; cases h5)
 have hfx : FoAt w p.A p.cnt p.gs (fun i => (X i ∧ some i ≠ sv.ownBlock) ∨ i = gg) F := h.fo.x (fun i ws hi hX => .inl ⟨hX, own_not h.sets hi.1 (by decide)⟩) (fun i cs hi hx => by
  rcases hx with hx | rfl
  ·exact hx.1
  ·exfalso
   rcases hat with h4 | h4
   ·obtain ⟨_, cs5, h5⟩ := own_ty h.sets h4
    rw [hi] at h5; cases h5
   ·have := lt_of_heap hi; omega)
 have hf6 : FoAt w6 p.A p.cnt p.gs (fun i => (X i ∧ some i ≠ sv.ownBlock) ∨ i = gg) F := (hfx.below hb).kb hkg (fun i cs t fz e hi => by
  obtain ⟨_, cs', h5⟩ := own_ty hA.sets e.symm
  rw [hi] at h5
  injection h5 with h5
  injection h5 with _ h5 _
  rw [h5]; decide)
 have hxx : ∀ i, i < w.heap.size → ((X i ∧ some i ≠ sv.ownBlock) ∨ i = gg) → X i := fun i hi hx => by
  rcases hx with hx | rfl
  ·exact hx.1
  ·rcases hat with h4 | h4
   ·exact h.xs _ h4
   ·omega
 refine ⟨⟨(hset.block _ (lt_of_heap h1) hbm).trans h1, by rw [set_heap w6 p.mb 0 _ _ _ _ h2]; rfl, ?_, own_kb hr6 hset (fun q hq e => ?_), ?_, fun q hq => ?_, fun q hq => .inl ⟨h.xr q hq, fun e => by
  obtain ⟨_, cs4, h4⟩ := own_ty hA.rules hq
  obtain ⟨_, cs5, h5⟩ := own_ty hA.sets e.symm
  rw [h4] at h5; cases h5⟩, .inl ⟨h.xm, own_not hA.sets hA.mach (by decide)⟩, ?_, ?_, h.cap, fun i hi => ?_⟩, ?_, hxx⟩
 ·have := own_kb hown hset (fun q hq e => by
   have hq' : gg = q := by simpa [Value.ownBlock] using hq
   exact hgm (hq'.trans e))
  rw [List.length_append, show (flatW (ss ++ [s])) = flatW ss ++ [.int .u64 s.a, .int .u64 s.b, .int .u64 s.c, .int .u64 s.d] by simp [flatW]]
  rw [hn1] at this ⊢
  exact this
 ·obtain ⟨_, cs, h4⟩ := own_ty hr6 hq
  rw [e, h2] at h4; cases h4
 ·exact (hf6.kb hset (fun i cs t fz e hi => by
   rw [e, h2] at hi
   injection hi with hi
   injection hi with _ h5 _
   rw [← h5]; decide))
 ·have hq' : gg = q := by simpa [Value.ownBlock] using hq
  exact .inr hq'.symm
 ·rintro (hx | hx)
  ·exact h.xb hx.1
  ·rw [hx] at h1
   rw [h3] at h1; cases h1
 ·rintro (hx | hx)
  ·exact h.xg hx.1
  ·obtain ⟨es, clk, h4⟩ := hgb
   have h5 := (hb.block _ (lt_of_heap h4)).trans h4
   have h6 : w6.heap[p.gb]? = some (.map es clk) := (hg.block _ (lt_of_heap h5) (fun e => by
    obtain ⟨_, cs', h7⟩ := own_ty hA.sets e.symm
    rw [h5] at h7; cases h7)).trans h5
   rw [hx, h3] at h6
   cases h6
 ·by_cases e : i = p.mb
  ·rw [e]; exact ⟨_, _, set_heap w6 p.mb 0 _ _ _ _ h2, .inl rfl⟩
  ·rcases hi with hi | hi
   ·obtain ⟨cs, t, h5, h6⟩ := hA.xt i hi.1
    have h8 := (hg.block i (lt_of_heap h5) hi.2).trans h5
    exact ⟨_, _, (hset.block i (lt_of_heap h8) e).trans h8, h6⟩
   ·rw [hi]; exact ⟨_, _, (hset.block gg (lt_of_heap h3) hgm).trans h3, .inr (.inl rfl)⟩
 ·exact ((Kb.of_below X hb).trans hkg (fun i hi e => h.xs i e.symm)).trans hset (fun i hi e => by rw [e]; exact h.xm)
theorem Bd.rules_push {w wa w6 : World} {p : BP} {X : Nat → Prop} {ss : List Ws} {rl : List Nat} {F : Nat → Nat → Bool} {sv rv : Value} {R : Nat} {gg n1 cap : Nat} (h : Bd w p X ss rl F sv rv) (hgb : ∃ es clk, w.heap[p.gb]? = some (.map es clk)) (hb : Below w.heap.size w wa)
  (hown : w6.ownsRow 0 3 1 (.slice (some ⟨gg, 0, none⟩) n1 cap) n1 (rl.map pv ++ [pv R])) (hn1 : n1 = rl.length + 1) (hg : wa.grownBy w6 rv.ownBlock) (hat : rv.ownBlock = some gg ∨ w.heap.size ≤ gg) :
  Bd (w6.setCell ⟨p.mb, 1, none⟩ (.slice (some ⟨gg, 0, none⟩) n1 cap)) p (fun i => (X i ∧ some i ≠ rv.ownBlock) ∨ i = gg) ss (rl ++ [R]) F sv (.slice (some ⟨gg, 0, none⟩) n1 cap) ∧ Kb X w (w6.setCell ⟨p.mb, 1, none⟩ (.slice (some ⟨gg, 0, none⟩) n1 cap)) ∧ (∀ i, i < w.heap.size → ((X i ∧ some i ≠ rv.ownBlock) ∨ i = gg) → X i) := by
 have hA := h.below hb
 have hkg := Kb.of_grown hg
 have hty : ∀ (b : Nat) (cs : Array Value) (t : TypeId) (fz : Nat × Nat), wa.heap[b]? = some (.cells cs t fz) → t ≠ 3 → w6.heap[b]? = some (.cells cs t fz) := fun b cs t fz hb' ht => (hg.block b (lt_of_heap hb') (own_not hA.rules hb' ht)).trans hb'
 have h1 := hty _ _ _ _ hA.bld (by decide)
 have h2 := hty _ _ _ _ hA.mach (by decide)
 obtain ⟨_, cg, h3⟩ := own_ty hown (g := gg) rfl
 have hset := Kb.setCell w6 ⟨p.mb, 1, none⟩ (.slice (some ⟨gg, 0, none⟩) n1 cap)
 have hgm : gg ≠ p.mb := fun e => by rw [e, h2] at h3; cases h3
 have hbm : p.bb ≠ p.mb := fun e => by rw [e, h2] at h1; cases h1
 have hr6 : w6.ownsRow 0 100 4 sv ss.length (flatW ss) := own_kb hA.sets hkg (fun q hq e => by
  obtain ⟨_, cs, h4⟩ := own_ty hA.sets hq
  obtain ⟨_, cs', h5⟩ := own_ty hA.rules e.symm
  rw [h4] at h5; cases h5)
 have hfx : FoAt w p.A p.cnt p.gs (fun i => (X i ∧ some i ≠ rv.ownBlock) ∨ i = gg) F := h.fo.x (fun i ws hi hX => .inl ⟨hX, own_not h.rules hi.1 (by decide)⟩) (fun i cs hi hx => by
  rcases hx with hx | rfl
  ·exact hx.1
  ·exfalso
   rcases hat with h4 | h4
   ·obtain ⟨_, cs5, h5⟩ := own_ty h.rules h4
    rw [hi] at h5; cases h5
   ·have := lt_of_heap hi; omega)
 have hf6 : FoAt w6 p.A p.cnt p.gs (fun i => (X i ∧ some i ≠ rv.ownBlock) ∨ i = gg) F := (hfx.below hb).kb hkg (fun i cs t fz e hi => by
  obtain ⟨_, cs', h5⟩ := own_ty hA.rules e.symm
  rw [hi] at h5
  injection h5 with h5
  injection h5 with _ h5 _
  rw [h5]; decide)
 have hxx : ∀ i, i < w.heap.size → ((X i ∧ some i ≠ rv.ownBlock) ∨ i = gg) → X i := fun i hi hx => by
  rcases hx with hx | rfl
  ·exact hx.1
  ·rcases hat with h4 | h4
   ·exact h.xr _ h4
   ·omega
 refine ⟨⟨(hset.block _ (lt_of_heap h1) hbm).trans h1, by rw [set_heap w6 p.mb 1 _ _ _ _ h2]; rfl, own_kb hr6 hset (fun q hq e => ?_), ?_, ?_, fun q hq => .inl ⟨h.xs q hq, fun e => by
  obtain ⟨_, cs4, h4⟩ := own_ty hA.sets hq
  obtain ⟨_, cs5, h5⟩ := own_ty hA.rules e.symm
  rw [h4] at h5; cases h5⟩, fun q hq => ?_, .inl ⟨h.xm, own_not hA.rules hA.mach (by decide)⟩, ?_, ?_, h.cap, fun i hi => ?_⟩, ?_, hxx⟩
 ·obtain ⟨_, cs, h4⟩ := own_ty hr6 hq
  rw [e, h2] at h4; cases h4
 ·have := own_kb hown hset (fun q hq e => by
   have hq' : gg = q := by simpa [Value.ownBlock] using hq
   exact hgm (hq'.trans e))
  rw [List.length_append, List.map_append]
  rw [hn1] at this ⊢
  exact this
 ·exact (hf6.kb hset (fun i cs t fz e hi => by
   rw [e, h2] at hi
   injection hi with hi
   injection hi with _ h5 _
   rw [← h5]; decide))
 ·have hq' : gg = q := by simpa [Value.ownBlock] using hq
  exact .inr hq'.symm
 ·rintro (hx | hx)
  ·exact h.xb hx.1
  ·rw [hx] at h1
   rw [h3] at h1; cases h1
 ·rintro (hx | hx)
  ·exact h.xg hx.1
  ·obtain ⟨es, clk, h4⟩ := hgb
   have h5 := (hb.block _ (lt_of_heap h4)).trans h4
   have h6 : w6.heap[p.gb]? = some (.map es clk) := (hg.block _ (lt_of_heap h5) (fun e => by
    obtain ⟨_, cs', h7⟩ := own_ty hA.rules e.symm
    rw [h5] at h7; cases h7)).trans h5
   rw [hx, h3] at h6
   cases h6
 ·by_cases e : i = p.mb
  ·rw [e]; exact ⟨_, _, set_heap w6 p.mb 1 _ _ _ _ h2, .inl rfl⟩
  ·rcases hi with hi | hi
   ·obtain ⟨cs, t, h5, h6⟩ := hA.xt i hi.1
    have h8 := (hg.block i (lt_of_heap h5) hi.2).trans h5
    exact ⟨_, _, (hset.block i (lt_of_heap h8) e).trans h8, h6⟩
   ·rw [hi]; exact ⟨_, _, (hset.block gg (lt_of_heap h3) hgm).trans h3, .inr (.inr (.inl rfl))⟩
 ·exact ((Kb.of_below X hb).trans hkg (fun i hi e => h.xr i e.symm)).trans hset (fun i hi e => by rw [e]; exact h.xm)
end Go.Proofs.YtejdfpieblkapaaGreatDoor
