/- New: what it begins with; the mathematics of rows of expressions. -/
import Derived.Test.YtejdfpieblkapaaGreatDoorG21
namespace Go.Proofs.YtejdfpieblkapaaGreatDoor
open Go.RowKit Go.Shelf

def cntS (rs : List Rx) : Nat := (rs.map Rx.cnt).sum
def stsS (rs : List Rx) : List Ws := rs.flatMap Rx.sts
def fstS : List Rx → Nat → List (List Nat)
 | [], _ => []
 | r :: rs, n => r.fst n :: fstS rs (n + r.cnt)
def lstS : List Rx → Nat → List (List Nat)
 | [], _ => []
 | r :: rs, n => r.lst n :: lstS rs (n + r.cnt)
def rlS : List Rx → Nat → List Nat
 | [], _ => []
 | r :: rs, k => List.replicate r.cnt k ++ rlS rs (k + 1)
def folS : List Rx → Nat → Nat → Nat → Bool
 | [], _, _, _ => false
 | r :: rs, n, x, y => r.fol n x y || folS rs (n + r.cnt) x y
theorem cntS_snoc (rs : List Rx) (r : Rx) : cntS (rs ++ [r]) = cntS rs + r.cnt := by simp [cntS]
theorem cntS_cons (rs : List Rx) (r : Rx) : cntS (r :: rs) = r.cnt + cntS rs := by simp [cntS]
theorem stsS_snoc (rs : List Rx) (r : Rx) : stsS (rs ++ [r]) = stsS rs ++ r.sts := by simp [stsS]
theorem stsS_len (rs : List Rx) : (stsS rs).length = cntS rs := by
 induction rs with
 | nil => rfl
 | cons r rs ih => rw [cntS_cons, ← ih]; simp [stsS, r.sts_len]
theorem fstS_snoc : ∀ (rs : List Rx) (r : Rx) (n : Nat), fstS (rs ++ [r]) n = fstS rs n ++ [r.fst (n + cntS rs)]
 | [], r, n => by simp [fstS, cntS]
 | a :: rs, r, n => by simp only [List.cons_append, fstS]; rw [fstS_snoc rs r, cntS_cons, Nat.add_assoc]
theorem lstS_snoc : ∀ (rs : List Rx) (r : Rx) (n : Nat), lstS (rs ++ [r]) n = lstS rs n ++ [r.lst (n + cntS rs)]
 | [], r, n => by simp [lstS, cntS]
 | a :: rs, r, n => by simp only [List.cons_append, lstS]; rw [lstS_snoc rs r, cntS_cons, Nat.add_assoc]
theorem rlS_snoc : ∀ (rs : List Rx) (r : Rx) (k : Nat), rlS (rs ++ [r]) k = rlS rs k ++ List.replicate r.cnt (k + rs.length)
 | [], r, k => by simp [rlS]
 | a :: rs, r, k => by
  simp only [List.cons_append, rlS, List.length_cons]
  rw [rlS_snoc rs r, List.append_assoc, show k + 1 + rs.length = k + (rs.length + 1) by omega]
theorem folS_snoc : ∀ (rs : List Rx) (r : Rx) (n x y : Nat), folS (rs ++ [r]) n x y = (folS rs n x y || r.fol (n + cntS rs) x y)
 | [], r, n, x, y => by simp [folS, cntS]
 | a :: rs, r, n, x, y => by simp only [List.cons_append, folS]; rw [folS_snoc rs r, cntS_cons, Nat.add_assoc, Bool.or_assoc]
theorem fstS_len : ∀ (rs : List Rx) (n : Nat), (fstS rs n).length = rs.length
 | [], _ => rfl
 | r :: rs, n => by simp [fstS, fstS_len rs]
theorem lstS_len : ∀ (rs : List Rx) (n : Nat), (lstS rs n).length = rs.length
 | [], _ => rfl
 | r :: rs, n => by simp [lstS, lstS_len rs]
theorem cntS_take {rs : List Rx} {k : Nat} {r : Rx} (h : rs[k]? = some r) : cntS (rs.take (k + 1)) = cntS (rs.take k) + r.cnt := by
 rw [List.take_add_one, h]
 exact cntS_snoc _ _
theorem cntS_take_le (rs : List Rx) (k : Nat) : cntS (rs.take k) ≤ cntS rs := by
 have h := congrArg cntS (List.take_append_drop k rs)
 have h2 : cntS (rs.take k ++ rs.drop k) = cntS (rs.take k) + cntS (rs.drop k) := by
  unfold cntS; rw [List.map_append, List.sum_append]
 omega

end Go.Proofs.YtejdfpieblkapaaGreatDoor

/- New. -/
namespace Go.Proofs.YtejdfpieblkapaaGreatDoor
open Lib renaming hid → zh
open List renaming getElem_toArray → w1z, getElem_cons_zero → w2z, getElem_cons_succ → w3z, setIfInBounds_toArray → w4z, set_cons_zero → w5z, set_cons_succ → w6z
open Go.RowKit Go.Shelf

def capS (rs : List Rx) : Nat := (rs.map fun r => min r.cnt 2001).sum
theorem capS_snoc (rs : List Rx) (r : Rx) : capS (rs ++ [r]) = capS rs + min r.cnt 2001 := by simp [capS]
theorem capS_take {rs : List Rx} {k : Nat} {r : Rx} (h : rs[k]? = some r) : capS (rs.take (k + 1)) = capS (rs.take k) + min r.cnt 2001 := by
 rw [List.take_add_one, h]
 exact capS_snoc _ _
theorem capS_le : ∀ rs : List Rx, capS rs ≤ rs.length * 2001
 | [] => by simp [capS]
 | r :: rs => by
  have := capS_le rs
  simp only [capS, List.map_cons, List.sum_cons, List.length_cons] at *
  omega
theorem capS_iff : ∀ rs : List Rx, (capS rs ≤ 2000 → capS rs = cntS rs) ∧ (cntS rs ≤ 2000 → capS rs = cntS rs)
 | [] => by simp [capS, cntS]
 | r :: rs => by
  have := capS_iff rs
  simp only [capS, cntS, List.map_cons, List.sum_cons] at *
  omega
structure FB (w wr : World) (B bb mb gb N k : Nat) (f : Value → Option Value) (A : Option Addr) (c : Nat) (gs : Nat → Nat) : Prop where
 bld : wr.heap[bb]? = some (.cells #[ptr mb, .map (some gb)] 83 (0, 0))
 mach : wr.heap[mb]? = some (.cells #[.slice none 0 0, .slice none 0 0, .slice A k c, .slice none 0 0, .slice none 0 0, .slice none 0 0] 79 (0, 0))
 own : wr.ownsRow B 87 1 (.slice A k c) k ((List.range k).map fun j => bsV (gs j) (nwd N))
 sets : ∀ j, j < k → BsAt wr (gs j) (List.replicate (nwd N) 0) ∧ B ≤ gs j
 inj : ∀ j j', j < k → j' < k → gs j = gs j' → j = j'
 kh : KH wr gb f
 bl : Below B w wr
 mB : B ≤ mb

theorem Tryz.info87 : (Tryz.prog.info? 87).map (fun i => (i.zero, i.size, i.bytes)) = some (some (.slice none 0 0), 1, 24) := by kernel_rfl
theorem FB.below {w wr w' : World} {B bb mb gb N k : Nat} {f : Value → Option Value} {A : Option Addr} {c : Nat} {gs : Nat → Nat} (h : FB w wr B bb mb gb N k f A c gs) (hb : Below wr.heap.size wr w') (hB : B ≤ wr.heap.size) : FB w w' B bb mb gb N k f A c gs :=
 ⟨(hb.block _ (lt_of_heap h.bld)).trans h.bld, (hb.block _ (lt_of_heap h.mach)).trans h.mach, own_below h.own hb, fun j hj => ⟨(h.sets j hj).1.below hb, (h.sets j hj).2⟩, h.inj, h.kh.below hb, h.bl.trans (hb.mono hB), h.mB⟩
theorem FB.push {w wr wa w6 : World} {B bb mb gb N k : Nat} {f : Value → Option Value} {A : Option Addr} {c : Nat} {gs : Nat → Nat} {g0 gg cap : Nat} (h : FB w wr B bb mb gb N k f A c gs) (hB : B ≤ wr.heap.size) (hb : Below wr.heap.size wr wa) (hg0 : wr.heap.size ≤ g0) (hz : BsAt wa g0 (List.replicate (nwd N) 0))
  (hown : w6.ownsRow B 87 1 (.slice (some ⟨gg, 0, none⟩) (k + 1) cap) (k + 1) (((List.range k).map fun j => bsV (gs j) (nwd N)) ++ [bsV g0 (nwd N)])) (hg : wa.grownBy w6 (Value.slice A k c).ownBlock) :
  FB w (w6.setCell ⟨mb, 2, none⟩ (.slice (some ⟨gg, 0, none⟩) (k + 1) cap)) B bb mb gb N (k + 1) f (some ⟨gg, 0, none⟩) cap (fun j => if j = k then g0 else gs j) := by
 have hA := h.below hb hB
 have hkg := Kb.of_grown hg
 have tf : ∀ i, some i = (Value.slice A k c).ownBlock → B ≤ i ∧ ∃ cs, wa.heap[i]? = some (.cells cs 87 (0, 0)) := fun i e => own_ty hA.own e.symm
 have n6 : ∀ (i : Nat) (o : Obj), wa.heap[i]? = some o → (∀ cs, o ≠ .cells cs 87 (0, 0)) → w6.heap[i]? = some o := fun i o h1 h2 => (hkg.block i (lt_of_heap h1) (fun e => by
  obtain ⟨_, cs, h3⟩ := tf i e
  rw [h1] at h3
  exact h2 cs (Option.some.inj h3))).trans h1
 have m6 := n6 _ _ hA.mach (by simp)
 obtain ⟨s1, s2⟩ := set1 (i := 2) m6 (.slice (some ⟨gg, 0, none⟩) (k + 1) cap)
 have n7 : ∀ (i : Nat) (o : Obj), wa.heap[i]? = some o → (∀ cs t, (t = 87 ∨ t = 79) → o ≠ .cells cs t (0, 0)) → (w6.setCell ⟨mb, 2, none⟩ (.slice (some ⟨gg, 0, none⟩) (k + 1) cap)).heap[i]? = some o := fun i o h1 h2 => by
  have h3 := n6 i o h1 (fun cs => h2 cs 87 (.inl rfl))
  refine (s2.block i (lt_of_heap h3) (fun e => ?_)).trans h3
  rw [e, hA.mach] at h1
  exact h2 _ 79 (.inr rfl) (Option.some.inj h1).symm
 have kk : Kb (fun i => some i = (Value.slice A k c).ownBlock ∨ i = mb) wa (w6.setCell ⟨mb, 2, none⟩ (.slice (some ⟨gg, 0, none⟩) (k + 1) cap)) := (hkg.wider (fun i h => .inl h)).trans s2 (fun i _ h => .inr h)
 obtain ⟨es, clk, hgb⟩ := hA.kh.isMap
 obtain ⟨_, cg, hgg⟩ := own_ty hown (g := gg) rfl
 refine ⟨n7 _ _ hA.bld (by intro cs t ht; rcases ht with rfl | rfl <;> simp), s1, ?_, fun j hj => ?_, fun j j' hj hj' e => ?_, hA.kh.keep ((n7 _ _ hgb (by simp)).trans hgb.symm) (kk.kn (fun i hi cs t fz h1 => ?_)), hA.bl.trans (kk.below (Nat.le_trans hB hb.size) (fun i hi => ?_)), h.mB⟩
 ·rw [List.range_succ, List.map_append]
  have e1 : (List.range k).map (fun j => bsV (if j = k then g0 else gs j) (nwd N)) = (List.range k).map (fun j => bsV (gs j) (nwd N)) := List.map_congr_left (fun j hj => by
   have := List.mem_range.1 hj
   rw [if_neg (by omega)])
  rw [e1]
  simp only [List.map_cons, List.map_nil, if_true]
  refine own_kb hown s2 (fun q hq e => ?_)
  have hq' : gg = q := by simpa [Value.ownBlock] using hq
  rw [hq', e, m6] at hgg; cases hgg
 ·by_cases e : j = k
  ·rw [if_pos e]
   exact ⟨⟨n7 _ _ hz.1 (by intro cs t ht; rcases ht with rfl | rfl <;> simp), hz.2⟩, by omega⟩
  ·rw [if_neg e]
   obtain ⟨h1, h2⟩ := hA.sets j (by omega)
   exact ⟨⟨n7 _ _ h1.1 (by intro cs t ht; rcases ht with rfl | rfl <;> simp), h1.2⟩, h2⟩
 ·have lt : ∀ j, j < k → gs j < g0 := fun j hj => by
   have := lt_of_heap (h.sets j hj).1.1
   omega
  by_cases e1 : j = k <;> by_cases e2 : j' = k
  ·omega
  ·rw [if_pos e1, if_neg e2] at e
   have := lt j' (by omega); omega
  ·rw [if_neg e1, if_pos e2] at e
   have := lt j (by omega); omega
  ·rw [if_neg e1, if_neg e2] at e
   exact h.inj j j' (by omega) (by omega) e
 ·rcases hi with hi | rfl
  ·obtain ⟨_, cs', h3⟩ := tf i hi
   rw [h1] at h3
   injection h3 with h3
   injection h3 with _ h3 _
   rw [h3]; decide
  ·rw [hA.mach] at h1
   injection h1 with h1
   injection h1 with _ h3 _
   rw [← h3]; decide
 ·rcases hi with hi | rfl
  ·exact (tf i hi).1
  ·exact h.mB
theorem FB.mc {w wr : World} {B bb mb gb N : Nat} {f : Value → Option Value} {A : Option Addr} {c : Nat} {gs : Nat → Nat} (h : FB w wr B bb mb gb N N f A c gs) (hB : B ≤ wr.heap.size) (hN : N ≤ 2000) :
  Mc wr B ⟨bb, mb, gb, N, A, c, .slice none 0 0, .slice none 0 0, .slice none 0 0, gs⟩ (fun i => i = mb ∨ ∃ j, j < N ∧ i = gs j) [] [] (fun _ _ => false) (.slice none 0 0) (.slice none 0 0) 0 f [] [] [] [] [] := by
 have nl : ∀ (e s : Nat) (b : Nat), wr.ownsRow b e s (.slice none 0 0) 0 [] := fun e s b => ⟨by simp, .inl ⟨rfl, rfl⟩⟩
 have xt : ∀ i, (i = mb ∨ ∃ j, j < N ∧ i = gs j) → ∃ cs t, wr.heap[i]? = some (.cells cs t (0, 0)) ∧ (t = 79 ∨ t = 99) := by
  rintro i (rfl | ⟨j, hj, rfl⟩)
  ·exact ⟨_, _, h.mach, .inl rfl⟩
  ·exact ⟨_, _, (h.sets j hj).1.1, .inr rfl⟩
 have nx : ∀ (b : Nat) (o : Obj), wr.heap[b]? = some o → (∀ cs t, (t = 79 ∨ t = 99) → o ≠ .cells cs t (0, 0)) → ¬ (b = mb ∨ ∃ j, j < N ∧ b = gs j) := fun b o hb ho e => by
  obtain ⟨cs, t, h1, h2⟩ := xt b e
  rw [hb] at h1
  exact ho cs t h2 (Option.some.inj h1)
 obtain ⟨es, clk, hgb⟩ := h.kh.isMap
 refine ⟨⟨⟨h.bld, h.mach, nl _ _ _, nl _ _ _, ⟨fun p hp => ?_, h.inj⟩, fun q hq => by simp [Value.ownBlock] at hq, fun q hq => by simp [Value.ownBlock] at hq, .inl rfl, nx _ _ h.bld (by intro cs t ht; rcases ht with rfl | rfl <;> simp), nx _ _ hgb (by simp), ?_, fun i hi => ?_⟩, h.kh, rfl, hN, ⟨_, _, rfl⟩⟩, ⟨rfl, by simp⟩, ⟨rfl, by simp⟩, nl _ _ _, nl _ _ _, nl _ _ _, fun q hq => by simp [Value.ownBlock] at hq, fun i hi => ?_, hB⟩
 ·have hp : p < N := hp
  obtain ⟨g, rfl, hcl, _, _⟩ := own_cells h.own (by omega)
  obtain ⟨_, cs, hg⟩ := own_ty h.own (g := g) rfl
  refine ⟨g, _, cs, rfl, hcl p _ (by simp [hp]), hg, nx _ _ hg (by intro cs t ht; rcases ht with rfl | rfl <;> simp), (h.sets p hp).1, by simp, fun q => bt_none _ _, .inr ⟨p, hp, rfl⟩⟩
 ·obtain ⟨A', c', e, h1, h2⟩ := own_form h.own
  injection e with _ _ e
  subst e
  exact ⟨h1, h2⟩
 ·obtain ⟨cs, t, h1, h2⟩ := xt i hi
  exact ⟨cs, t, h1, by unfold XT; rcases h2 with h2 | h2 <;> simp [h2]⟩
 ·rcases hi with rfl | ⟨j, hj, rfl⟩
  ·exact h.mB
  ·exact (h.sets j hj).2

set_option maxRecDepth 100000 in
set_option maxHeartbeats 8000000 in
theorem new_any (w : World) (A : Option Addr) (n c : Nat) (bs : List Nat) (rs : List Rx) (hr : RowAt w A bs) (hl : bs.length = n) (hnc : n ≤ c) (hn0 : 1 ≤ n) (hn1 : n ≤ 1000) (hns : NdsAt w rs bs) (htm : (rs.map Rx.tm).sum ≤ 1000000) :
  Calls Tryz.prog 13 #[.slice A n c] w fun e w' => ((2000 < cntS rs ∧ e = .returned (.tuple #[.pointer none, .int .i64 3])) ∨ (cntS rs ≤ 2000 ∧ ∃ (p : BP) (X : Nat → Prop) (sv rv : Value) (f : Value → Option Value) (fl ll : List Value), e = .returned (.tuple #[ptr p.mb, .int .i64 0]) ∧ Mc w' w.heap.size p X (stsS rs) (rlS rs 0) (folS rs 0) sv rv n f (fstS rs 0) (lstS rs 0) (rs.map Rx.nul) fl ll ∧ p.cnt = cntS rs)) ∧ Below w.heap.size w w' := by
 obtain ⟨POST, hPOST⟩ : ∃ POST : Ending → World → Prop, POST = fun e w' => ((2000 < cntS rs ∧ e = .returned (.tuple #[.pointer none, .int .i64 3])) ∨ (cntS rs ≤ 2000 ∧ ∃ (p : BP) (X : Nat → Prop) (sv rv : Value) (f : Value → Option Value) (fl ll : List Value), e = .returned (.tuple #[ptr p.mb, .int .i64 0]) ∧ Mc w' w.heap.size p X (stsS rs) (rlS rs 0) (folS rs 0) sv rv n f (fstS rs 0) (lstS rs 0) (rs.map Rx.nul) fl ll ∧ p.cnt = cntS rs)) ∧ Below w.heap.size w w' := ⟨_, rfl⟩
 have HPOST := zh hPOST
 rw [← hPOST]
 have HCN := zh (contains_no A n c bs w hr hl hnc (by omega))
 have hne : ¬ (n : Int) = 0 := by omega
 have HL := zh hl; have HR := zh hr; have HNS := zh hns; have HTM := zh htm; have HN1 := zh hn1; have HN0 := zh hn0
 obtain ⟨i0, hi0, hz0, hz1, hz2⟩ := info_parts Tryz.info87
 have HI := zh hi0; have HZ0 := zh hz0; have HZ1 := zh hz1; have HZ2 := zh hz2
 clear hPOST hl hr hns htm hn1 hn0 hi0 hz0 hz1 hz2
 go_enter Tryz.func13, Tryz.ntmps13
 go_wp2_with fail
 refine HCN.out.mono ?_
 rintro e w1 ⟨rfl, rfl⟩
 go_wp2_with fail
 have hb2 := (Below.refl _ w1).alloc (Nat.le_refl _) (.cells #[.slice none 0 0, .slice none 0 0, .slice none 0 0, .slice none 0 0, .slice none 0 0, .slice none 0 0] 79)
 have hm2 := heap_alloc_new w1 (.cells #[.slice none 0 0, .slice none 0 0, .slice none 0 0, .slice none 0 0, .slice none 0 0, .slice none 0 0] 79)
 have hs2 : (w1.alloc (.cells #[.slice none 0 0, .slice none 0 0, .slice none 0 0, .slice none 0 0, .slice none 0 0, .slice none 0 0] 79)).heap.size = w1.heap.size + 1 := by simp
 generalize w1.alloc (.cells #[.slice none 0 0, .slice none 0 0, .slice none 0 0, .slice none 0 0, .slice none 0 0, .slice none 0 0] 79) = w2 at hb2 hm2 hs2 ⊢
 have hr2 : RowAt w2 A bs := HR.out.keep hb2
 have HGA := zh (gists_any w2 A n c bs rs hr2 HL.out (fun h => by have := HN0.out; omega) (HNS.out.keep (KN.of_below hb2)) HTM.out)
 obtain ⟨mb, hmb⟩ : ∃ mb, mb = w1.heap.size := ⟨_, rfl⟩
 rw [← hmb] at hm2 ⊢
 have HB2 := zh hb2; have HM2 := zh hm2; have HMB := zh hmb; have HS2 := zh hs2
 clear hb2 hm2 hs2 hr2 hmb
 refine HGA.out.mono ?_
 rintro e w3 ⟨f, m, rfl, hmp, hgo, hfs, hb3⟩
 obtain ⟨gb, hgb⟩ : ∃ gb, gb = w2.heap.size := ⟨_, rfl⟩
 rw [← hgb] at hmp ⊢
 have hkh : KH w3 gb f := ⟨⟨m, hmp.kd (fun _ _ _ => trivial)⟩, hgo.keep (KN.of_below hb3)⟩
 have HK3 := zh hkh; have HB3 := zh hb3; have HFS := zh hfs; have HGB := zh hgb
 clear hmp hgo hfs hb3 hkh hgb HGA HCN
 go_upto_region 5 with fail
 have hb4 := (Below.refl _ w3).alloc (Nat.le_refl _) (.cells #[ptr mb, .map (some gb)] 83)
 have hx4 := heap_alloc_new w3 (.cells #[ptr mb, .map (some gb)] 83)
 obtain ⟨bb, hbb⟩ : ∃ bb, bb = w3.heap.size := ⟨_, rfl⟩
 rw [← hbb] at hx4 ⊢
 generalize w3.alloc (.cells #[ptr mb, .map (some gb)] 83) = w4 at hb4 hx4 ⊢
 have HFB : Hid (FB w1 w4 w1.heap.size bb mb gb (cntS rs) 0 f none 0 (fun _ => 0)) := zh ⟨hx4, (hb4.block _ (by have := HB3.out.size; have := HS2.out; have := HMB.out; omega)).trans ((HB3.out.block _ (lt_of_heap HM2.out)).trans HM2.out), ⟨rfl, .inl ⟨rfl, rfl⟩⟩, fun j hj => absurd hj (by omega), fun j j' hj => absurd hj (by omega), HK3.out.below hb4, (HB2.out.trans (HB3.out.mono HB2.out.size)).trans (hb4.mono (by have := HB2.out.size; have := HB3.out.size; omega)), by rw [HMB.out]; exact Nat.le_refl _⟩
 have HBB := zh hbb
 clear hb4 hx4 hbb HK3 HB3 HB2 HM2 HS2
 have HN4 := zh (HNS.out.keep (KN.of_below HFB.out.bl))
 have hr4 : RowAt w4 A bs := HR.out.keep HFB.out.bl
 have HR4 := zh hr4
 obtain ⟨m4, hm4⟩ := HFB.out.kh.map
 have HMP := zh hm4
 have HKI := zh (keyIn_nd' w4)
 have b1c : w4.cell? ⟨bb, 1, none⟩ = some (.map (some gb)) := by rw [Lib.cell_of_heap HFB.out.bld]; rfl
 have HKH := zh HFB.out.kh
 clear hr4 hm4
 have HRL := zh (show rs.length = n by rw [HNS.out.1, HL.out])
 go_wp2_with fail
 go_loopw [25, 5] (fun i s wr => ∃ k : Nat, k ≤ n ∧ i = .int .i64 k ∧ s = .int .i64 (capS (rs.take k) : Nat) ∧ wr = w4) (fun i _ _ => n - (intOf i).toNat)
 case atStart => exact ⟨0, Nat.zero_le _, rfl, by simp [capS], rfl⟩
 case round =>
  obtain ⟨k, hk, rfl, rfl, rfl⟩ := hrel
  by_cases hlt : k < n
  ·have hki : (k : Int) < n := by omega
   have hn1 := HN1.out
   have hk0 : (0 : Int) ≤ k := by omega
   obtain ⟨b, hb⟩ : ∃ b, bs[k]? = some b := ⟨_, List.getElem?_eq_getElem (by rw [HL.out]; exact hlt)⟩
   obtain ⟨r, hrk⟩ : ∃ r, rs[k]? = some r := ⟨_, List.getElem?_eq_getElem (by rw [HRL.out]; exact hlt)⟩
   obtain ⟨g, rfl, hc, _⟩ := HR4.out.get hb
   have hnd := HN4.out.2 k r b hrk hb
   have HKD := zh hnd.key
   obtain ⟨v, hv⟩ := Option.isSome_iff_exists.1 (HFS.out b (List.mem_of_getElem? hb))
   obtain ⟨⟨cv, hvv, _⟩, _⟩ := HKH.out.go.at hnd hv
   obtain ⟨kc, hkc⟩ : ∃ kc, kc = min r.cnt 2001 := ⟨_, rfl⟩
   rw [← hkc] at hvv
   obtain ⟨gs, hgs⟩ : ∃ gs, gs = r.gst := ⟨_, rfl⟩
   rw [← hgs] at hvv
   have HLK := zh (show (if false = true then Value.tuple #[(f (ptr b)).getD zG, .bool (f (ptr b)).isSome] else (f (ptr b)).getD zG) = .agg #[.int .i64 kc, cv, .bool gs] by rw [if_neg (by decide), hv, Option.getD_some, hvv])
   have HS := zh (show capS (rs.take (k + 1)) = capS (rs.take k) + kc by rw [hkc]; exact capS_take hrk)
   have HSB := zh (show capS (rs.take k) ≤ 2001000 ∧ kc ≤ 2001 from by have := capS_le (rs.take k); rw [List.length_take] at this; have := HN1.out; omega)
   generalize capS (rs.take k) = S at HS HSB ⊢
   have hs0 : S ≤ 2001000 := HSB.out.1
   have hs1 : kc ≤ 2001 := HSB.out.2
   clear hb hrk hnd hv hvv hkc hgs
   have hfd : ∀ w : World, (Instr.field 85 (.agg #[.int .i64 (kc : Nat), cv, .bool gs]) 0).run Tryz.prog w = .ok (.int .i64 (kc : Nat)) w := fun _ => by kernel_rfl
   go_wp2_with (at_lookup; refine wpList_mp_look _ rfl _ _ 80 false rfl HKI.out Tryz.underlying80 (Tryz.zeroValue85 _) rfl HMP.out (ptr b) rfl HKD.out (.agg #[.int .i64 kc, cv, .bool gs]) HLK.out ?_)
   go_roundw
   case rel => exact ⟨k + 1, by omega, by go_num, by rw [HS.out]; go_num, trivial⟩
   case measure => simp [intOf]; omega
  ·obtain rfl : k = n := by omega
   have HT : Hid (capS (rs.take k) = capS rs) := zh (by rw [← HRL.out, List.take_length])
   rw [HT.out]
   clear HT HMP HKI b1c
   by_cases hbig : 2000 < capS rs
   ·have hbi : (2000 : Int) < (capS rs : Nat) := by omega
    have HBG := zh (show 2000 < cntS rs from by have := (capS_iff rs).2; omega)
    generalize capS rs = S at hbi hbig ⊢
    go_wp2_with fail
    have hp := HPOST.out
    subst hp
    exact ⟨.inl ⟨HBG.out, rfl⟩, HFB.out.bl⟩
   ·have hS : capS rs = cntS rs := (capS_iff rs).1 (by omega)
    rw [hS] at hbig ⊢
    obtain ⟨N, hN⟩ : ∃ N, N = cntS rs := ⟨_, rfl⟩
    rw [← hN] at hbig ⊢
    have hN2 : N ≤ 2000 := by omega
    have hbi : ¬ (2000 : Int) < (N : Nat) := by omega
    have HN := zh hN
    rw [← hN] at HFB
    clear hN hS hbig
    go_wp2_with fail
    go_loopw [42] (fun i wr => ∃ j : Nat, j ≤ N ∧ i = .int .i64 j ∧ Hid (∃ (A' : Option Addr) (c' : Nat) (gs' : Nat → Nat), FB w1 wr w1.heap.size bb mb gb N j f A' c' gs')) (fun i _ => N - (intOf i).toNat)
    case atStart => exact ⟨0, Nat.zero_le _, rfl, ⟨_, _, _, HFB.out⟩⟩
    case round =>
     obtain ⟨j, hj, rfl, HJF⟩ := hrel
     obtain ⟨A', c', gs', hfb⟩ := HJF.out
     have HF := zh hfb
     by_cases hlt2 : j < N
     ·have hji : (j : Int) < N := by omega
      have hj0 : (0 : Int) ≤ j := by omega
      have d0 : wr.cell? ⟨bb, 0, none⟩ = some (ptr mb) := by rw [Lib.cell_of_heap hfb.bld]; rfl
      have d1 : wr.cell? ⟨mb, 2, none⟩ = some (.slice A' j c') := by rw [Lib.cell_of_heap hfb.mach]; rfl
      clear hfb HJF
      go_wp2_with fail
      refine wp_region_k 17 (fun w' => w'.cell? ⟨bb, 0, none⟩ = some (ptr mb) ∧ w'.cell? ⟨mb, 2, none⟩ = some (.slice A' j c')) (by kernel_rfl) (⟨d0, d1⟩) ?_
      intro hS
      change wpAnyK _ _ _ _ _ _ 18 (Array.replicate 18 false) _ (World.drew _)
      have HBs := zh (show w1.heap.size ≤ wr.heap.size from HF.out.bl.size)
      have HMD := zh (HF.out.below ((Below.refl _ wr).drew) HBs.out)
      have HBD := zh ((Below.refl wr.heap.size wr).drew)
      generalize wr.drew = wd at HMD HBD hS ⊢
      refine wpAnyK_take (i := 0) (v := ?_) rfl (by kernel_rfl) (by kernel_rfl) (by kernel_rfl) (by kernel_rfl) (fun _ _ _ h => h) (Or.inl ⟨by rfl, ?_⟩) hS ?_
      rotate_left 1
      ·intro wq _; go_simp; (try with_reducible rfl)
      try simp only [Act.put, w1z, w2z, w4z, w5z, w6z]
      refine wpAnyK_take (i := 1) (v := ?_) rfl (by kernel_rfl) (by kernel_rfl) (by kernel_rfl) (by kernel_rfl) (fun _ _ _ h => h) (Or.inl ⟨by rfl, ?_⟩) hS ?_
      rotate_left 1
      ·intro wq _; go_simp; (try with_reducible rfl)
      try simp only [Act.put, w1z, w2z, w3z, w4z, w5z, w6z]
      refine wpAnyK_take (i := 2) (v := ?_) rfl (by kernel_rfl) (by kernel_rfl) (by kernel_rfl) (by kernel_rfl) (fun _ _ _ h => h) (Or.inl ⟨by rfl, ?_⟩) hS ?_
      rotate_left 1
      ·intro wq _; go_simp; (try with_reducible rfl)
      try simp only [Act.put, w1z, w2z, w3z, w4z, w5z, w6z]
      refine wpAnyK_take (i := 3) (v := ?_) rfl (by kernel_rfl) (by kernel_rfl) (by kernel_rfl) (by kernel_rfl) (fun _ _ _ h => h) (Or.inl ⟨by rfl, ?_⟩) hS ?_
      rotate_left 1
      ·intro wq hq; obtain ⟨q1, q2⟩ := hq; go_simp; (try with_reducible rfl)
      try simp only [Act.put, w1z, w2z, w3z, w4z, w5z, w6z]
      refine wpAnyK_take (i := 4) (v := ?_) rfl (by kernel_rfl) (by kernel_rfl) (by kernel_rfl) (by kernel_rfl) (fun _ _ _ h => h) (Or.inl ⟨by rfl, ?_⟩) hS ?_
      rotate_left 1
      ·intro wq _; go_simp; (try with_reducible rfl)
      try simp only [Act.put, w1z, w2z, w3z, w4z, w5z, w6z]
      refine wpAnyK_take (i := 5) (v := ?_) rfl (by kernel_rfl) (by kernel_rfl) (by kernel_rfl) (by kernel_rfl) (fun _ _ _ h => h) (Or.inl ⟨by rfl, ?_⟩) hS ?_
      rotate_left 1
      ·intro wq _; go_simp; (try with_reducible rfl)
      try simp only [Act.put, w1z, w2z, w3z, w4z, w5z, w6z]
      refine wpAnyK_take (i := 6) (v := ?_) rfl (by kernel_rfl) (by kernel_rfl) (by kernel_rfl) (by kernel_rfl) (fun _ _ _ h => h) (Or.inl ⟨by rfl, ?_⟩) hS ?_
      rotate_left 1
      ·intro wq _; go_simp; (try with_reducible rfl)
      try simp only [Act.put, w1z, w2z, w3z, w4z, w5z, w6z]
      refine wpAnyK_take (i := 7) (v := ?_) rfl (by kernel_rfl) (by kernel_rfl) (by kernel_rfl) (by kernel_rfl) (fun _ _ _ h => h) (Or.inl ⟨by rfl, ?_⟩) hS ?_
      rotate_left 1
      ·intro wq hq; obtain ⟨q1, q2⟩ := hq; go_simp; (try with_reducible rfl)
      try simp only [Act.put, w1z, w2z, w3z, w4z, w5z, w6z]
      refine wpAnyK_take (i := 8) (v := ?_) rfl (by kernel_rfl) (by kernel_rfl) (by kernel_rfl) (by kernel_rfl) (fun _ _ _ h => h) (Or.inl ⟨by rfl, ?_⟩) hS ?_
      rotate_left 1
      ·intro wq _; go_simp; (try with_reducible rfl)
      try simp only [Act.put, w1z, w2z, w3z, w4z, w5z, w6z]
      refine wpAnyK_take (i := 9) (v := ?_) rfl (by kernel_rfl) (by kernel_rfl) (by kernel_rfl) (by kernel_rfl) (fun _ _ _ h => h) (Or.inl ⟨by rfl, ?_⟩) hS ?_
      rotate_left 1
      ·intro wq _; go_simp; (try with_reducible rfl)
      try simp only [Act.put, w1z, w2z, w3z, w4z, w5z, w6z]
      refine wpAnyK_take (i := 10) (v := ?_) rfl (by kernel_rfl) (by kernel_rfl) (by kernel_rfl) (by kernel_rfl) (fun _ _ _ h => h) (Or.inl ⟨by rfl, ?_⟩) hS ?_
      rotate_left 1
      ·intro wq hq; obtain ⟨q1, q2⟩ := hq; go_simp; (try with_reducible rfl)
      try simp only [Act.put, w1z, w2z, w3z, w4z, w5z, w6z]
      refine wpAnyK_take (i := 11) (v := ?_) rfl (by kernel_rfl) (by kernel_rfl) (by kernel_rfl) (by kernel_rfl) (fun _ _ _ h => h) (Or.inl ⟨by rfl, ?_⟩) hS ?_
      rotate_left 1
      ·intro wq _; go_simp; (try with_reducible rfl)
      try simp only [Act.put, w1z, w2z, w3z, w4z, w5z, w6z]
      refine wpAnyK_one (i := 12) (by kernel_rfl) rfl (fun K' hK => ?_)
      go_simp
      have HBN := zh (bs_new wd N (by omega))
      go_at_call 49
      refine HBN.out.mono ?_
      rintro e w5 ⟨rfl, hz5, hb5⟩
      have HM5 := zh (HMD.out.below hb5 (by have := HBD.out.size; have := HBs.out; omega))
      have HB5 := zh (below_tr HBD.out hb5 HBD.out.size)
      have HZ5 := zh hz5
      obtain ⟨g0, hg0⟩ : ∃ g0, g0 = wd.heap.size := ⟨_, rfl⟩
      rw [← hg0] at HZ5 ⊢
      have HG0 := zh (show wr.heap.size ≤ g0 from by rw [hg0]; exact HBD.out.size)
      clear hz5 hb5 hg0 HBN
      refine hK.out _ _ (fun _ => ⟨by rw [Lib.cell_of_heap HM5.out.bld]; rfl, by rw [Lib.cell_of_heap HM5.out.mach]; rfl⟩) (fun hS => ?_)
      replace hS := hS (by decide)
      clear hK K'
      try simp only [Act.put, w1z, w2z, w3z, w4z, w5z, w6z]
      refine wpAnyK_one (i := 13) (by kernel_rfl) rfl (fun K' hK => ?_)
      go_simp
      have hal := (Below.refl _ w5).alloc (Nat.le_refl _) (.cells #[bsV g0 (nwd N)] 87)
      have HM6 := zh (HM5.out.below hal (by have := HB5.out.size; have := HBs.out; omega))
      have HB6 := zh (below_tr HB5.out hal HB5.out.size)
      have HZ6 := zh (HZ5.out.below hal)
      have HNW := zh (heap_alloc_new w5 (.cells #[bsV g0 (nwd N)] 87))
      obtain ⟨W2, hW2⟩ : ∃ W2, w5.heap.size = W2 := ⟨_, rfl⟩
      rw [hW2] at HNW ⊢
      generalize w5.alloc (.cells #[bsV g0 (nwd N)] 87) = w6 at HM6 HB6 HZ6 HNW hal ⊢
      clear hal hW2
      refine hK.out _ _ (fun _ => ⟨by rw [Lib.cell_of_heap HM6.out.bld]; rfl, by rw [Lib.cell_of_heap HM6.out.mach]; rfl⟩) (fun hS => ?_)
      replace hS := hS (by decide)
      clear hK K'
      try simp only [Act.put, w1z, w2z, w3z, w4z, w5z, w6z]
      refine wpAnyK_one (i := 14) (by kernel_rfl) rfl (fun K' hK => ?_)
      refine step_append_lies _ (by rfl) _ _ _ (by rfl) w1.heap.size 87 i0 _ 1 24 Tryz.underlying76 HI.out HZ0.out HZ1.out HZ2.out rfl (by omega) (.slice A' j c') j ((List.range j).map fun j => bsV (gs' j) (nwd N)) (by rfl) HM6.out.own ⟨W2, 0, none⟩ 1 1 [bsV g0 (nwd N)] (by rfl) (by rfl) (World.news_of_block (cs := #[bsV g0 (nwd N)]) (t := 87) (fr := (0, 0)) HNW.out) (by simp [Value.oneCell']) (by omega) (by unfold maxLen; omega) (by omega) (by have := HB6.out.size; have := HBs.out; omega) w6.heap.size rfl ?_
      intro gg cap6 w7 hown7 hgrow7 hat7 hlt7
      have HPU := zh (HF.out.push HBs.out HB6.out HG0.out HZ6.out hown7 hgrow7)
      have HMA7 := zh ((hgrow7.block mb (lt_of_heap HM6.out.mach) (own_not HM6.out.own HM6.out.mach (by decide))).trans HM6.out.mach)
      have HBB7 := zh ((hgrow7.block bb (lt_of_heap HM6.out.bld) (own_not HM6.out.own HM6.out.bld (by decide))).trans HM6.out.bld)
      clear hown7 hgrow7 hat7 hlt7
      refine hK.out _ _ (fun _ => ⟨by rw [Lib.cell_of_heap HBB7.out]; rfl, by rw [Lib.cell_of_heap HMA7.out]; rfl⟩) (fun hS => ?_)
      replace hS := hS (by decide)
      clear hK K'
      try simp only [Act.put, w1z, w2z, w3z, w4z, w5z, w6z]
      refine wpAnyK_one (i := 15) (by kernel_rfl) rfl (fun K' hK => ?_)
      go_simp
      refine hK.out _ _ (fun _ => hS) (fun hS => ?_)
      replace hS := hS (by decide)
      clear hK K'
      try simp only [Act.put, w1z, w2z, w3z, w4z, w5z, w6z]
      refine wpAnyK_one (i := 16) (by kernel_rfl) rfl (fun K' hK => ?_)
      go_simp
      refine hK.out _ _ (fun _ => hS) (fun hS => ?_)
      replace hS := hS (by decide)
      clear hK K'
      try simp only [Act.put, w1z, w2z, w3z, w4z, w5z, w6z]
      have c6 : w7.cell? ⟨mb, 2, none⟩ = some (.slice A' j c') := hS.2
      have f6 : w7.frozen? ⟨mb, 2, none⟩ = false := Lib.frozen_of_heap HMA7.out 2
      refine wpAnyK_one (i := 17) (by kernel_rfl) rfl (fun K' hK => ?_)
      go_simp
      refine hK.out _ _ (fun h => absurd rfl h) (fun _ => ?_)
      clear hK K'
      try simp only [Act.put, w1z, w2z, w3z, w4z, w5z, w6z]
      refine wpAnyK_done (by kernel_rfl) ?_ _
      clear d0 d1 c6 f6 HMA7 HBB7 HNW HZ6 HB6 HM6 HZ5 HB5 HM5 HMD HBD
      generalize w7.setCell ⟨mb, 2, none⟩ (.slice (some ⟨gg, 0, none⟩) (j + 1) cap6) = w8 at HPU ⊢
      go_wp2_with fail
      go_roundw
      case rel => exact ⟨j + 1, by omega, by go_num, ⟨_, _, _, HPU.out⟩⟩
      case measure => simp [intOf]; omega
     ·obtain rfl : N = j := by omega
      have HBs := zh (show w1.heap.size ≤ wr.heap.size from HF.out.bl.size)
      have HMC := zh (HF.out.mc HBs.out hN2)
      clear HJF hfb
      go_wp2_with fail
      go_loopw [64] (fun i wq => ∃ q : Nat, q ≤ k ∧ i = .int .i64 q ∧ Hid (∃ (p : BP) (X : Nat → Prop) (sv rv : Value) (fl ll : List Value), Mc wq w1.heap.size p X (stsS (rs.take q)) (rlS (rs.take q) 0) (folS (rs.take q) 0) sv rv q f (fstS (rs.take q) 0) (lstS (rs.take q) 0) ((rs.take q).map Rx.nul) fl ll ∧ p.bb = bb ∧ p.mb = mb ∧ p.cnt = N ∧ Below w1.heap.size w1 wq)) (fun i _ => k - (intOf i).toNat)
      case atStart => exact ⟨0, Nat.zero_le _, rfl, ⟨_, _, _, _, _, _, HMC.out, rfl, rfl, rfl, HF.out.bl⟩⟩
      case round =>
       obtain ⟨q, hq, rfl, HQ⟩ := hrel
       obtain ⟨p, X, sv, rv, fl, ll, hmc, hpb, hpm, hpc, hbl⟩ := HQ.out
       clear HQ
       by_cases hlt3 : q < k
       ·have hqi : (q : Int) < k := by omega
        have hn1 := HN1.out
        have hq0 : (0 : Int) ≤ q := by omega
        obtain ⟨b, hb⟩ : ∃ b, bs[q]? = some b := ⟨_, List.getElem?_eq_getElem (by rw [HL.out]; exact hlt3)⟩
        obtain ⟨r, hrk⟩ : ∃ r, rs[q]? = some r := ⟨_, List.getElem?_eq_getElem (by rw [HRL.out]; exact hlt3)⟩
        obtain ⟨g, rfl, hc, _⟩ := (HR.out.keep hbl).get hb
        have hnd := (HNS.out.keep (KN.of_below hbl)).2 q r b hrk hb
        have hct := cntS_take hrk
        have hcl := cntS_take_le rs (q + 1)
        have HADD := zh (add_any _ w1.heap.size p X _ _ _ sv rv q f _ _ _ fl ll r b hmc hnd (HFS.out b (List.mem_of_getElem? hb)) (by rw [stsS_len, hpc, HN.out]; omega) (by omega) (by rw [fstS_len, List.length_take]; omega) (by rw [lstS_len, List.length_take]; omega))
        rw [hpb] at HADD
        have HP := zh (And.intro hpb (And.intro hpm (And.intro hpc hbl)))
        have HRK := zh hrk
        clear hmc hnd hb hrk hct hcl hpb hpm hpc hbl
        go_wp2_with fail
        refine HADD.out.mono ?_
        rintro e w9 ⟨rfl, hadd⟩
        have HA := zh hadd
        clear hadd HADD
        go_wp2_with fail
        go_roundw
        case rel =>
         refine ⟨q + 1, by omega, by go_num, ?_⟩
         obtain ⟨p', X', sv', rv', fl', ll', h1, h2, h3, h4, h5, _, _, _, h6⟩ := HA.out
         have e1 : rs.take (q + 1) = rs.take q ++ [r] := by rw [List.take_add_one, HRK.out]; rfl
         have e2 : (rs.take q).length = q := by rw [List.length_take]; have := HRL.out; omega
         rw [stsS_len] at h1
         refine ⟨p', X', sv', rv', fl', ll', ?_, h2.trans HP.out.1, h3.trans HP.out.2.1, h5.trans HP.out.2.2.1, HP.out.2.2.2.trans h6⟩
         rw [e1, stsS_snoc, rlS_snoc, fstS_snoc, lstS_snoc, List.map_append, Nat.zero_add, Nat.zero_add, e2]
         have e3 : folS (rs.take q ++ [r]) 0 = fun x y => folS (rs.take q) 0 x y || r.fol (cntS (rs.take q)) x y := by
          funext x y; rw [folS_snoc, Nat.zero_add]
         rw [e3]
         exact h1
        case measure => simp [intOf]; omega
       ·obtain rfl : k = q := by omega
        have e1 : rs.take k = rs := by rw [← HRL.out, List.take_length]
        rw [e1] at hmc
        have d0 := hmc.ka.bd.cell.1
        rw [hpb, hpm] at d0
        have HE := zh (And.intro hmc (And.intro hpm (And.intro hpc hbl)))
        clear hmc hpb hpm hpc hbl e1
        go_wp2_with fail
        have hp := HPOST.out
        subst hp
        refine ⟨.inr ⟨by rw [← HN.out]; exact hN2, p, X, sv, rv, f, fl, ll, by rw [HE.out.2.1]; rfl, HE.out.1, by rw [HE.out.2.2.1, HN.out]⟩, HE.out.2.2.2⟩
end Go.Proofs.YtejdfpieblkapaaGreatDoor

/- The finished machine: rows of expressions and of positions. -/
namespace Go.Proofs.YtejdfpieblkapaaGreatDoor
open Lib renaming hid → zh
open Go.RowKit Go.Shelf

def MsAt (w : World) (B mb : Nat) (rs : List Rx) : Prop := ∃ (p : BP) (X : Nat → Prop) (sv rv : Value) (f : Value → Option Value) (fl ll : List Value), Mc w B p X (stsS rs) (rlS rs 0) (folS rs 0) sv rv rs.length f (fstS rs 0) (lstS rs 0) (rs.map Rx.nul) fl ll ∧ p.mb = mb ∧ p.cnt = cntS rs ∧ cntS rs ≤ 2000
theorem MsAt.below {w w' : World} {B mb : Nat} {rs : List Rx} (h : MsAt w B mb rs) (hb : Below w.heap.size w w') : MsAt w' B mb rs := by
 obtain ⟨p, X, sv, rv, f, fl, ll, h1, h2⟩ := h
 exact ⟨p, X, sv, rv, f, fl, ll, h1.below hb, h2⟩
theorem new_ms (w : World) (A : Option Addr) (n c : Nat) (bs : List Nat) (rs : List Rx) (hr : RowAt w A bs) (hl : bs.length = n) (hnc : n ≤ c) (hn0 : 1 ≤ n) (hn1 : n ≤ 1000) (hns : NdsAt w rs bs) (htm : (rs.map Rx.tm).sum ≤ 1000000) :
  Calls Tryz.prog 13 #[.slice A n c] w fun e w' => ((2000 < cntS rs ∧ e = .returned (.tuple #[.pointer none, .int .i64 3])) ∨ (∃ mb, e = .returned (.tuple #[ptr mb, .int .i64 0]) ∧ MsAt w' w.heap.size mb rs)) ∧ Below w.heap.size w w' := by
 refine (new_any w A n c bs rs hr hl hnc hn0 hn1 hns htm).mono ?_
 rintro e w' ⟨h1 | ⟨h1, p, X, sv, rv, f, fl, ll, rfl, h2, h3⟩, h4⟩
 ·exact ⟨.inl h1, h4⟩
 ·have hrs : n = rs.length := by rw [hns.1, hl]
  rw [hrs] at h2
  exact ⟨.inr ⟨p.mb, rfl, p, X, sv, rv, f, fl, ll, h2, rfl, h3, h1⟩, h4⟩
theorem MsAt.cells {w : World} {B mb : Nat} {rs : List Rx} (h : MsAt w B mb rs) : ∃ (As Ar A Af Al Ae : Option Addr) (cs cr c cf cl ce : Nat), w.heap[mb]? = some (.cells #[.slice As (cntS rs) cs, .slice Ar (cntS rs) cr, .slice A (cntS rs) c, .slice Af rs.length cf, .slice Al rs.length cl, .slice Ae rs.length ce] 79 (0, 0)) ∧
  w.ownsRow 0 100 4 (.slice As (cntS rs) cs) (cntS rs) (flatW (stsS rs)) ∧ w.ownsRow 0 3 1 (.slice Ar (cntS rs) cr) (cntS rs) ((rlS rs 0).map pv) ∧
  (∃ fl, RowsV w (fun _ => False) (fstS rs 0) fl ∧ w.ownsRow 0 32 1 (.slice Af rs.length cf) rs.length fl) ∧ (∃ ll, RowsV w (fun _ => False) (lstS rs 0) ll ∧ w.ownsRow 0 32 1 (.slice Al rs.length cl) rs.length ll) ∧
  w.ownsRow 0 4 1 (.slice Ae rs.length ce) rs.length ((rs.map Rx.nul).map .bool) ∧ (∃ gs X, FoAt w A (cntS rs) gs X (folS rs 0)) ∧ cntS rs ≤ c ∧ c ≤ 9223372036854775807 := by
 obtain ⟨p, X, sv, rv, f, fl, ll, h1, rfl, h3, h4⟩ := h
 have e0 := h1.ka.bd.sets
 rw [stsS_len] at e0
 have e1 := h1.ka.bd.rules
 have el : (rlS rs 0).length = cntS rs := by rw [h1.ka.lens, stsS_len]
 rw [el] at e1
 obtain ⟨As, cs, rfl, _⟩ := own_form e0
 obtain ⟨Ar, cr, rfl, _⟩ := own_form e1
 have e2 := own_base h1.of (Nat.zero_le _)
 have e3 := own_base h1.ol (Nat.zero_le _)
 have e4 := own_base h1.em (Nat.zero_le _)
 have hfl := h1.rf.1
 have hll := h1.rt.1
 rw [fstS_len] at hfl
 rw [lstS_len] at hll
 rw [hfl] at e2
 rw [hll] at e3
 have hm := h1.ka.bd.mach
 have hfo := h1.ka.bd.fo
 have hcp := h1.ka.bd.cap
 rw [h3] at hm hfo hcp
 obtain ⟨Af, cf, e5, _⟩ := own_form e2
 obtain ⟨Al, cl, e6, _⟩ := own_form e3
 obtain ⟨Ae, ce, e7, _⟩ := own_form e4
 rw [e5, e6, e7] at hm
 rw [e5] at e2
 rw [e6] at e3
 rw [e7] at e4
 exact ⟨As, Ar, p.A, Af, Al, Ae, cs, cr, p.c, cf, cl, ce, hm, e0, e1, ⟨fl, h1.rf.x (fun _ _ h => h.elim), e2⟩, ⟨ll, h1.rt.x (fun _ _ h => h.elim), e3⟩, e4, ⟨p.gs, X, hfo⟩, hcp⟩

set_option maxRecDepth 100000 in
set_option maxHeartbeats 1000000 in
theorem rule_yes (w : World) (mb : Nat) (Ae : Option Addr) (R ce i : Nat) (h5 : w.cell? ⟨mb, 5, none⟩ = some (.slice Ae R ce)) (hi : i < R) (_hR : R ≤ 100000) : Calls Tryz.prog 57 #[ptr mb, .int .i64 i] w fun e w' => e = .returned (.bool true) ∧ w' = w := by
 have HR := zh (rules_any w mb Ae R ce h5)
 have h0 : (0 : Int) ≤ i := by omega
 have h1 : (i : Int) < R := by omega
 clear h5
 go_enter Tryz.func57, Tryz.ntmps57
 go_wp2_with fail
 refine HR.out.mono ?_
 rintro e w1 ⟨rfl, rfl⟩
 go_wp2
 go_ret
 simp
set_option maxRecDepth 100000 in
set_option maxHeartbeats 1000000 in
theorem position_yes (w : World) (mb : Nat) (Ae : Option Addr) (R ce i : Nat) (h5 : w.cell? ⟨mb, 0, none⟩ = some (.slice Ae R ce)) (hi : i < R) (_hR : R ≤ 100000) : Calls Tryz.prog 59 #[ptr mb, .int .i64 i] w fun e w' => e = .returned (.bool true) ∧ w' = w := by
 have HR := zh (len_any w mb Ae R ce h5)
 have h0 : (0 : Int) ≤ i := by omega
 have h1 : (i : Int) < R := by omega
 clear h5
 go_enter Tryz.func59, Tryz.ntmps59
 go_wp2_with fail
 refine HR.out.mono ?_
 rintro e w1 ⟨rfl, rfl⟩
 go_wp2
 go_ret
 simp
set_option maxRecDepth 100000 in
set_option maxHeartbeats 1000000 in
theorem clone_int (w : World) (B n : Nat) (v0 : Value) (l : List Nat) (h : w.ownsRow B 3 1 v0 n (l.map pv)) (hn : n ≤ 1000000) :
  Calls Tryz.prog 58 #[v0] w fun e w' => ∃ v, e = .returned v ∧ w'.ownsRow w.heap.size 3 1 v n (l.map pv) ∧ Below w.heap.size w w' := by
 obtain ⟨i0, hi0, hz0, hz1, hz2⟩ := info_parts Tryz.info3
 have HI := zh hi0; have HZ0 := zh hz0; have HZ1 := zh hz1; have HZ2 := zh hz2
 clear hi0 hz0 hz1 hz2
 have hlen : l.length = n := by have := h.1; simp at this; omega
 rcases h.2 with ⟨rfl, rfl⟩ | ⟨g, cap, cur, rfl, hb, hh, r1, r2, r3, r4⟩
 ·have hl : l = [] := List.length_eq_zero_iff.1 hlen
  subst hl
  have heq : ∀ w' : World, (binOp .eql 32 (.slice none 0 0) (.slice none 0 0)).run Tryz.prog w' = .ok (.bool true) w' := fun w' => run_eql_slice_nil w' 32 3 none 0 0 Tryz.underlying32
  clear h hlen
  go_enter Tryz.func58, Tryz.ntmps58
  go_wp2
  go_ret
  exact ⟨_, rfl, own_nil _ _ _ _, Below.refl _ _⟩
 ·have hg : ∀ (j : Nat) (u : Value), (l.map pv)[j]? = some u → w.cell? ⟨g, j, none⟩ = some u := by
   intro j u hu
   rw [Lib.cell_of_heap hh]
   rw [← r4] at hu
   have hlt : j < n * 1 := by
    have := (List.getElem?_eq_some_iff.1 hu).1
    rw [List.length_take] at this
    omega
   rw [List.getElem?_take_of_lt hlt] at hu
   simpa using hu
  have HG := zh hg
  have HL := zh hlen
  have HLT := zh (lt_of_heap hh)
  have heq : ∀ w' : World, (binOp .eql 32 (.slice (some ⟨g, 0, none⟩) n cap) (.slice none 0 0)).run Tryz.prog w' = .ok (.bool false) w' := fun w' => run_eql_slice_nil w' 32 3 _ n cap Tryz.underlying32
  clear h hlen hg hb hh r1 r2 r3 r4
  go_enter Tryz.func58, Tryz.ntmps58
  go_wp2_with (at_builtin; refine wpList_app_src rfl _ _ 32 rfl w.heap.size 3 i0 (.int .i64 0) Tryz.underlying32 HI.out HZ0.out HZ1.out HZ2.out rfl (.slice (some ⟨w.heap.size, 0, none⟩) 0 0) 0 [] rfl (own_empty w 3 1 (by omega)) (some ⟨g, 0, none⟩) n cap (l.map pv) rfl (.inr ⟨_, rfl, fun j u hu => by rw [add_none', Nat.zero_add]; exact (((Below.refl _ w).alloc (Nat.le_refl _) _).cell (p := ⟨g, j, none⟩) HLT.out).trans (HG.out j u hu)⟩) (by rw [List.length_map]; exact HL.out) (by intro u hu; obtain ⟨z, _, rfl⟩ := List.mem_map.1 hu; rfl) (by omega) (by simp) ?_; intro v' w' hown hgrow)
  go_ret
  refine ⟨v', rfl, by simpa using hown, ?_⟩
  exact ((Below.refl _ w).alloc (Nat.le_refl _) _).grown hgrow (by simp) (fun j hj => by cases hj; exact Nat.le_refl _)
theorem fstS_get {rs : List Rx} {n i : Nat} {l : List Nat} (h : (fstS rs n)[i]? = some l) : i < rs.length ∧ l.length ≤ cntS rs := by
 induction rs generalizing n i with
 | nil => simp [fstS] at h
 | cons r rs ih =>
  rw [cntS_cons]
  cases i with
  | zero =>
   simp [fstS] at h
   subst h
   have := (r.fst_up n).len
   exact ⟨by simp, by omega⟩
  | succ i =>
   have := ih (n := n + r.cnt) (i := i) (by simpa [fstS] using h)
   simp only [List.length_cons]
   omega
theorem lstS_get {rs : List Rx} {n i : Nat} {l : List Nat} (h : (lstS rs n)[i]? = some l) : i < rs.length ∧ l.length ≤ cntS rs := by
 induction rs generalizing n i with
 | nil => simp [lstS] at h
 | cons r rs ih =>
  rw [cntS_cons]
  cases i with
  | zero =>
   simp [lstS] at h
   subst h
   have := (r.lst_up n).len
   exact ⟨by simp, by omega⟩
  | succ i =>
   have := ih (n := n + r.cnt) (i := i) (by simpa [lstS] using h)
   simp only [List.length_cons]
   omega

set_option maxRecDepth 100000 in
set_option maxHeartbeats 2000000 in
theorem first_any (w : World) (B mb : Nat) (rs : List Rx) (h : MsAt w B mb rs) (hR : rs.length ≤ 1000) (i : Nat) (l : List Nat) (hl : (fstS rs 0)[i]? = some l) :
  Calls Tryz.prog 19 #[ptr mb, .int .i64 i] w fun e w' => ∃ v, e = .returned v ∧ w'.ownsRow w.heap.size 3 1 v l.length (l.map pv) ∧ Below w.heap.size w w' := by
 have hc2 : cntS rs ≤ 2000 := by obtain ⟨p, X, sv, rv, f, fl, ll, h1, h2, h3, h4⟩ := h; exact h4
 obtain ⟨As, Ar, A, Af, Al, Ae, cs, cr, c, cf, cl, ce, hm, _, _, ⟨fl, hf1, hf2⟩, ⟨ll, hl1, hl2⟩, _, _, _⟩ := h.cells
 obtain ⟨hi, hlen⟩ := fstS_get hl
 obtain ⟨v, hv, hrow, _⟩ := hf1.2 i l hl
 obtain ⟨gf, rfl, hcl, hcap, hcap2⟩ := own_cells hf2 (by omega)
 have hci := hcl i v hv
 have c3 : w.cell? ⟨mb, 3, none⟩ = some (.slice (some ⟨gf, 0, none⟩) rs.length cf) := by rw [Lib.cell_of_heap hm]; rfl
 have HRY := zh (rule_yes w mb Ae rs.length ce i (by rw [Lib.cell_of_heap hm]; rfl) hi (by omega))
 have HCL := zh (clone_int w 0 l.length v l hrow (by omega))
 obtain ⟨A', c', rfl, _⟩ := own_form hrow
 obtain ⟨R, hRR⟩ : ∃ R, R = rs.length := ⟨_, rfl⟩
 rw [← hRR] at c3 hR hi hcap2
 have hii : (i : Int) < R := by omega
 have hi0 : (0 : Int) ≤ i := by omega
 clear h hm hf1 hf2 hl1 hl2 hrow hcl hv hl hlen hc2 hRR
 go_enter Tryz.func19, Tryz.ntmps19
 go_wp2_with fail
 refine HRY.out.mono ?_
 rintro e w1 ⟨rfl, rfl⟩
 go_wp2_with fail
 refine HCL.out.mono ?_
 rintro e w2 ⟨v, rfl, ho, hb⟩
 go_wp2
 go_ret
 exact ⟨v, rfl, ho, hb⟩
set_option maxRecDepth 100000 in
set_option maxHeartbeats 2000000 in
theorem last_any (w : World) (B mb : Nat) (rs : List Rx) (h : MsAt w B mb rs) (hR : rs.length ≤ 1000) (i : Nat) (l : List Nat) (hl : (lstS rs 0)[i]? = some l) :
  Calls Tryz.prog 24 #[ptr mb, .int .i64 i] w fun e w' => ∃ v, e = .returned v ∧ w'.ownsRow w.heap.size 3 1 v l.length (l.map pv) ∧ Below w.heap.size w w' := by
 have hc2 : cntS rs ≤ 2000 := by obtain ⟨p, X, sv, rv, f, fl, ll, h1, h2, h3, h4⟩ := h; exact h4
 obtain ⟨As, Ar, A, Af, Al, Ae, cs, cr, c, cf, cl, ce, hm, _, _, ⟨fl, hf1, hf2⟩, ⟨ll, hl1, hl2⟩, _, _, _⟩ := h.cells
 obtain ⟨hi, hlen⟩ := lstS_get hl
 obtain ⟨v, hv, hrow, _⟩ := hl1.2 i l hl
 obtain ⟨gf, rfl, hcl, hcap, hcap2⟩ := own_cells hl2 (by omega)
 have hci := hcl i v hv
 have c3 : w.cell? ⟨mb, 4, none⟩ = some (.slice (some ⟨gf, 0, none⟩) rs.length cl) := by rw [Lib.cell_of_heap hm]; rfl
 have HRY := zh (rule_yes w mb Ae rs.length ce i (by rw [Lib.cell_of_heap hm]; rfl) hi (by omega))
 have HCL := zh (clone_int w 0 l.length v l hrow (by omega))
 obtain ⟨A', c', rfl, _⟩ := own_form hrow
 obtain ⟨R, hRR⟩ : ∃ R, R = rs.length := ⟨_, rfl⟩
 rw [← hRR] at c3 hR hi hcap2
 have hii : (i : Int) < R := by omega
 have hi0 : (0 : Int) ≤ i := by omega
 clear h hm hf1 hf2 hl1 hl2 hrow hcl hv hl hlen hc2 hRR
 go_enter Tryz.func24, Tryz.ntmps24
 go_wp2_with fail
 refine HRY.out.mono ?_
 rintro e w1 ⟨rfl, rfl⟩
 go_wp2_with fail
 refine HCL.out.mono ?_
 rintro e w2 ⟨v, rfl, ho, hb⟩
 go_wp2
 go_ret
 exact ⟨v, rfl, ho, hb⟩
end Go.Proofs.YtejdfpieblkapaaGreatDoor
