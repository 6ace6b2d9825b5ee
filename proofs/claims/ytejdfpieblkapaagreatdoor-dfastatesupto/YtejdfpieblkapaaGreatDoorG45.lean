/- Run. -/
import Derived.Test.YtejdfpieblkapaaGreatDoorG40
import Derived.Test.YtejdfpieblkapaaGreatDoorG36c
import Derived.Maps.AppendAt
import Derived.Test.YtejdfpieblkapaaGreatDoorH16
import Derived.Test.YtejdfpieblkapaaGreatDoorG36b
import Derived.Test.YtejdfpieblkapaaGreatDoorH22
import Derived.Test.YtejdfpieblkapaaGreatDoorG30
import Derived.Test.YtejdfpieblkapaaGreatDoorH1
namespace Go.Proofs.YtejdfpieblkapaaGreatDoor
open Go.RowKit Go.Shelf

def mns (rs : List Rx) (u : List UInt8) (i : Nat) : Bool := match rs[i]? with
 | some r => r.mt u
 | none => false
end Go.Proofs.YtejdfpieblkapaaGreatDoor

/- What an automaton accepts, reckoned; small machines have few states. -/
namespace Go.Proofs.YtejdfpieblkapaaGreatDoor
open Go.RowKit Go.Shelf

def wantR (rs : List Rx) (u : List UInt8) : Option Nat := (List.range rs.length).find? fun i => mns rs u i
theorem mns_iff {rs : List Rx} {u : List UInt8} {i : Nat} {r : Rx} (h : rs[i]? = some r) : mns rs u i = true ↔ r.L u := by
 unfold mns
 rw [h]
 exact r.mt_iff u
theorem wantR_none {rs : List Rx} {u : List UInt8} (h : ∀ (i : Nat) (r : Rx), rs[i]? = some r → ¬ r.L u) : wantR rs u = none := by
 refine List.find?_eq_none.2 (fun i hi he => ?_)
 have hi := List.mem_range.1 hi
 exact h i _ (List.getElem?_eq_getElem hi) ((mns_iff (List.getElem?_eq_getElem hi)).1 he)
theorem wantR_some {rs : List Rx} {u : List UInt8} {R : Nat} {r : Rx} (hr : rs[R]? = some r) (hl : r.L u) (h : ∀ i < R, ∀ r' : Rx, rs[i]? = some r' → ¬ r'.L u) : wantR rs u = some R := by
 have hR := (List.getElem?_eq_some_iff.1 hr).1
 unfold wantR
 rw [List.find?_range_eq_some]
 refine ⟨(mns_iff hr).2 hl, List.mem_range.2 hR, fun i hi => ?_⟩
 have hi2 : i < rs.length := by omega
 cases e : mns rs u i with
 | false => rfl
 | true => exact absurd ((mns_iff (List.getElem?_eq_getElem hi2)).1 e) (h i hi _ (List.getElem?_eq_getElem hi2))
theorem DfS.want {rs : List Rx} {D : Df} (h : DfS rs D) {u : List UInt8} (hu : u ≠ []) : (D.run u = none ∧ wantR rs u = none) ∨ ∃ n, D.run u = some n ∧ n < D.N ∧ D.ac n = wantR rs u := by
 rcases h.run u with ⟨h1, _, h3⟩ | ⟨n, h1, h2, _, _, _⟩
 ·refine .inl ⟨h1, wantR_none (fun i r hi hl => ?_)⟩
  obtain ⟨q, _, hq⟩ := (run_iff hi u hu).2 hl
  exact h3 q hq
 ·refine .inr ⟨n, h1, h2, ?_⟩
  rcases h.acc hu h1 with ⟨h4, h5⟩ | ⟨R, r, h4, h5, h6, h7⟩
  ·rw [h4, wantR_none h5]
  ·rw [h4, wantR_some h5 h6 h7]
theorem DfS.ac0 {rs : List Rx} {D : Df} (h : DfS rs D) : D.ac 0 = none := by
 obtain ⟨us, _, h2⟩ := h.ac
 rcases h2 0 h.n0 with ⟨h3, _⟩ | ⟨q, R, _, h4, _⟩
 ·exact h3
 ·rw [h.p0] at h4; cases h4
theorem nodup_lt : ∀ (m : Nat) (l : List Nat), l.Nodup → (∀ x ∈ l, x < m) → l.length ≤ m
 | 0, [], _, _ => Nat.le_refl _
 | 0, x :: _, _, h => absurd (h x (List.mem_cons_self ..)) (by omega)
 | m + 1, l, hn, h => by
  by_cases hm : m ∈ l
  ·have h1 := nodup_lt m (l.erase m) (hn.erase m) (fun x hx => by
    have := h x (List.mem_of_mem_erase hx)
    have h2 := (hn.mem_erase_iff.1 hx).1
    omega)
   rw [List.length_erase_of_mem hm] at h1
   omega
  ·have := nodup_lt m l hn (fun x hx => by
    have := h x hx
    rcases Nat.lt_or_ge x m with h2 | h2
    ·exact h2
    ·obtain rfl : x = m := by omega
     exact absurd hx hm)
   omega
theorem few {rs : List Rx} (hc : cntS rs ≤ 3) (hc1 : 1 ≤ cntS rs) (n : Nat) : (mst (mkM rs) n).1.length ≤ 8 := by
 have hnw : nwd (cntS rs) = 1 := by unfold nwd; omega
 have hst := st_ok rs n
 have hx : ∀ x ∈ (mst (mkM rs) n).1, ∃ a, x = [a] ∧ a < 8 := fun x hx => by
  have ho := hst x hx
  have hl := ho.len
  rw [hnw] at hl
  obtain ⟨a, rfl⟩ := List.length_eq_one_iff.1 hl
  refine ⟨a, rfl, Nat.lt_pow_two_of_testBit (n := 3) a (fun j hj => ?_)⟩
  rcases Nat.lt_or_ge j 64 with h1 | h1
  ·cases e : a.testBit j with
   | false => rfl
   | true =>
    have h2 := ho.N j (by unfold bt; rw [show j / 64 = 0 by omega, show j % 64 = j by omega]; simpa using e)
    omega
  ·exact Nat.testBit_lt_two_pow (Nat.lt_of_lt_of_le (ho.lt a (by simp)) (Nat.pow_le_pow_right (by omega) h1))
 have h1 := nodup_lt 8 ((mst (mkM rs) n).1.map fun x => x.headD 0) (by
  refine List.pairwise_map.2 ((mst_nodup (mkM rs) n).imp_of_mem (fun {x y} hx1 hy1 hne e => ?_))
  obtain ⟨a, rfl, _⟩ := hx x hx1
  obtain ⟨b, rfl, _⟩ := hx y hy1
  exact hne (by rw [show a = b from e])) (fun y hy => by
  obtain ⟨x, hx1, rfl⟩ := List.mem_map.1 hy
  obtain ⟨a, rfl, ha⟩ := hx x hx1
  exact ha)
 simpa using h1
end Go.Proofs.YtejdfpieblkapaaGreatDoor

/- Make, the example, and the law that of no automaton nothing comes. -/
namespace Go.Proofs.YtejdfpieblkapaaGreatDoor
open Lib renaming hid → zh
open Go.RowKit Go.Shelf

attribute [local irreducible] seen
theorem new_ofr {w0 w : World} {va vb : Value} {rs rb : List Rx} {bs : List Nat} {cb : List Value} {Q : Nat → Prop} (h : RuS w0 w va rs bs vb rb cb Q) (h6 : rs.length ≤ 6) (h4 : ∀ r ∈ rs, r.size ≤ 400) : Calls Tryz.prog 13 #[va] w fun e w' => Below w.heap.size w w' ∧ (((rs = [] ∨ 2000 < cntS rs) ∧ ∃ x : Int, x ≠ 0 ∧ e = .returned (.tuple #[.pointer none, .int .i64 x])) ∨ ∃ B mb, e = .returned (.tuple #[ptr mb, .int .i64 0]) ∧ MsAt w' B mb rs) := by
 obtain ⟨A, c, rfl, h1, h2⟩ := own_form h.oa
 have hl : bs.length = rs.length := h.na.1.symm
 by_cases h0 : bs.length = 0
 ·rw [h0]
  refine (new_zero w A c).mono ?_
  rintro e w' ⟨rfl, rfl⟩
  exact ⟨Below.refl _ _, .inl ⟨.inl (List.length_eq_zero_iff.1 (by omega)), 1, by decide, rfl⟩⟩
 ·refine (new_ms w A bs.length c bs rs (row_at h.oa) rfl h1 (by omega) (by omega) h.na.nds (by have := tm_sum h4; omega)).mono ?_
  rintro e w' ⟨⟨h5, rfl⟩ | ⟨mb, rfl, hm⟩, hb⟩
  ·exact ⟨hb, .inl ⟨.inr h5, 3, by decide, rfl⟩⟩
  ·exact ⟨hb, .inr ⟨_, mb, rfl, hm⟩⟩
def MkTo (ss : List ByteArray) (w : World) (e : Ending) (w' : World) : Prop := Below w.heap.size w w' ∧ ((e = .returned (.tuple #[.pointer none, .slice none 0 0]) ∧ (rxs ss = [] ∨ 2000 < cntS (rxs ss) ∨ ∃ n, 2000 < (mst (mkM (rxs ss)) n).1.length + 1)) ∨ ∃ (d : Nat) (D : Df) (gs ga gn cs ca cn : Nat) (vb : Value) (cb : List Value) (Q : Nat → Prop), e = .returned (.tuple #[ptr d, vb]) ∧ DfAt w' d D gs ga gn cs ca cn ∧ DfS (rxs ss) D ∧ w'.ownsRow w.heap.size 36 258 vb (rxs ss).length cb ∧ RfR Q w' (rxs ss) cb ∧ ∀ r ∈ rxs ss, r.size ≤ 400)
set_option maxRecDepth 100000 in
set_option maxHeartbeats 4000000 in
theorem make_any (w : World) (A : Option Addr) (n c : Nat) (ss : List ByteArray) (hl : ss.length = n) (hnc : n ≤ c) (hS : SsAt w A ss) (h6 : n ≤ 6) (h40 : ∀ s ∈ ss, s.size ≤ 40) (hT : TabH w) : Calls Tryz.prog 27 #[.slice A n c] w (MkTo ss w) := by
 have HRU := zh (rules_law w A n c ss hl hnc hS h6 h40)
 have hr6 : (rxs ss).length ≤ 6 := by have := rxs_len ss; omega
 have HR6 := zh hr6; have HT := zh hT
 clear hl hS h40 hr6 hT
 go_enter Tryz.func27, Tryz.ntmps27
 go_wp2_with fail
 refine HRU.out.mono ?_
 rintro e w1 ⟨va, vb, bad, bs, cb, Q, rfl, hR, hsz⟩
 obtain ⟨rs, hrs⟩ : ∃ rs, rs = rxs ss := ⟨_, rfl⟩
 have HRS := zh hrs
 rw [← hrs] at hR hsz HR6
 clear hrs
 have HNW := zh (new_ofr hR HR6.out hsz)
 have HRR := zh hR; have HSZ := zh hsz
 clear hR hsz HRU
 go_wp2_with fail
 refine HNW.out.mono ?_
 rintro e w2 ⟨hb2, ⟨hre, x, hx, rfl⟩ | ⟨B, mb, rfl, hms⟩⟩
 ·have HB2 := zh hb2; have HRE := zh hre
  have HDN := zh (dnew_nil w2)
  clear hb2 hre HNW
  go_wp2_with fail
  refine HDN.out.mono ?_
  rintro e w3 ⟨rfl, rfl⟩
  go_wp2_with fail
  go_ret2
  refine ⟨below_tr HRR.out.bl HB2.out HRR.out.bl.size, .inl ⟨rfl, ?_⟩⟩
  rw [← HRS.out]
  rcases HRE.out with h | h
  ·exact .inl h
  ·exact .inr (.inl h)
 ·have HB2 := zh hb2
  have HDN := zh (dnew_any w2 B mb rs hms (by have := HR6.out; omega) (HT.out.below (below_tr HRR.out.bl hb2 HRR.out.bl.size)))
  clear hb2 hms HNW
  go_wp2_with fail
  refine HDN.out.mono ?_
  rintro e w3 ⟨hb3, ⟨rfl, n, hn⟩ | ⟨d, D, gs, ga, gn, cs, ca, cn, rfl, hda, hds⟩⟩
  ·have HB3 := zh hb3; have HN := zh hn
   clear hb3 hn HDN
   go_wp2_with fail
   go_ret2
   refine ⟨below_tr HRR.out.bl (below_tr HB2.out HB3.out HB2.out.size) HRR.out.bl.size, .inl ⟨rfl, ?_⟩⟩
   rw [← HRS.out]
   exact .inr (.inr ⟨n, HN.out⟩)
  ·have HB3 := zh hb3; have HDA := zh hda; have HDS := zh hds
   clear hb3 hda hds HDN
   go_wp2_with fail
   go_ret2
   have hbb := below_tr HB2.out HB3.out HB2.out.size
   have hR3 := HRR.out.below hbb
   rw [HRS.out] at hR3 HDS HSZ
   exact ⟨hR3.bl, .inr ⟨d, D, gs, ga, gn, cs, ca, cn, vb, cb, Q, rfl, HDA.out, HDS.out, hR3.ob, hR3.nb, HSZ.out⟩⟩
end Go.Proofs.YtejdfpieblkapaaGreatDoor

/- The example of layer 7, and the law that of no automaton nothing comes. -/
namespace Go.Proofs.YtejdfpieblkapaaGreatDoor
open Lib renaming hid → zh
open Go.RowKit Go.Shelf

attribute [local irreducible] seen
def aw7a : Rx := .cat (.set ⟨0, 8589934592, 0, 0⟩) (.set ⟨0, 17179869184, 0, 0⟩)
def aw7b : Rx := .star (.set ⟨0, 8589934592, 0, 0⟩)
theorem aw7_pa : parseF [97, 98] = some aw7a := by kernel_rfl
theorem aw7_pb : parseF [97, 42] = some aw7b := by kernel_rfl
theorem aw7_rxs : rxs [⟨#[97, 98]⟩, ⟨#[97, 42]⟩] = [aw7a, aw7b] := by
 have h1 : parseF (ByteArray.data ⟨#[97, 98]⟩).toList = some aw7a := aw7_pa
 have h2 : parseF (ByteArray.data ⟨#[97, 42]⟩).toList = some aw7b := aw7_pb
 simp [rxs, h1, h2]
theorem aw7_cnt : cntS [aw7a, aw7b] = 3 := by kernel_rfl
theorem aw7_wa : wantR [aw7a, aw7b] [97, 97] = some 1 := by kernel_rfl
theorem aw7_wb : wantR [aw7a, aw7b] [97, 98] = some 0 := by kernel_rfl

set_option maxRecDepth 100000 in
set_option maxHeartbeats 4000000 in
theorem awake7_any (w : World) (hT : TabH w) : Calls Tryz.prog 26 #[] w (Ans (.bool true) w) := by
 have hal := (Below.refl w.heap.size w).alloc (Nat.le_refl _) (.cells #[.string ⟨#[97, 98]⟩, .string ⟨#[97, 42]⟩] 9)
 have hnw := heap_alloc_new w (.cells #[.string ⟨#[97, 98]⟩, .string ⟨#[97, 42]⟩] 9)
 have HT := zh hT
 obtain ⟨g, hg⟩ : ∃ g, g = w.heap.size := ⟨_, rfl⟩
 have HG := zh hg
 rw [← hg] at hnw
 have HAL := zh hal; have HNW := zh hnw
 clear hT hal hnw hg
 go_enter Tryz.func26, Tryz.ntmps26
 go_wp2_with fail
 rw [← HG.out]
 generalize w.alloc (.cells #[.string ⟨#[97, 98]⟩, .string ⟨#[97, 42]⟩] 9) = w1 at *
 refine (make_any w1 (some ⟨g, 0, none⟩) 2 2 [⟨#[97, 98]⟩, ⟨#[97, 42]⟩] rfl (Nat.le_refl _) (fun i s hi => ⟨g, 0, rfl, ?_⟩) (by omega) (fun s hs => ?_) (HT.out.below HAL.out)).mono ?_
 ·rw [Lib.cell_of_heap HNW.out]
  rcases i with _ | _ | i
  ·simp at hi; subst hi; rfl
  ·simp at hi; subst hi; rfl
  ·simp at hi
 ·rcases List.mem_cons.1 hs with rfl | hs
  ·decide
  ·rcases List.mem_singleton.1 hs with rfl
   decide
 ·rintro e w2 ⟨hb2, ⟨_, hno⟩ | ⟨d, D, gs, ga, gn, cs, ca, cn, vb, cb, Q, rfl, hda, hds, _, _, _⟩⟩
  ·exfalso
   rw [aw7_rxs] at hno
   rcases hno with h | h | ⟨n, h⟩
   ·cases h
   ·rw [aw7_cnt] at h; omega
   ·have := few (rs := [aw7a, aw7b]) (by rw [aw7_cnt]; exact Nat.le_refl _) (by rw [aw7_cnt]; decide) n
    omega
  ·rw [aw7_rxs] at hds
   have HB2 := zh (below_tr HAL.out hb2 HAL.out.size)
   have HDA := zh hda; have HDS := zh hds
   have hwa := hds.want (u := [97, 97]) (by simp)
   have hwb := hds.want (u := [97, 98]) (by simp)
   rw [aw7_wa] at hwa
   rw [aw7_wb] at hwb
   obtain ⟨x, hx1, hx2, hx3⟩ : ∃ n, D.run [97, 97] = some n ∧ n < D.N ∧ D.ac n = some 1 := by
    rcases hwa with ⟨_, h⟩ | h
    ·cases h
    ·exact h
   obtain ⟨y, hy1, hy2, hy3⟩ : ∃ n, D.run [97, 98] = some n ∧ n < D.N ∧ D.ac n = some 0 := by
    rcases hwb with ⟨_, h⟩ | h
    ·cases h
    ·exact h
   have hr1 := drun_df w2 d gs ga gn cs ca cn D ⟨#[97, 97]⟩ hda hds.Ok (by decide)
   rw [show D.run (ByteArray.data ⟨#[97, 97]⟩).toList = some x from hx1] at hr1
   have HR1 := zh hr1
   have HX2 := zh hx2; have HX3 := zh hx3; have HY1 := zh hy1; have HY2 := zh hy2; have HY3 := zh hy3
   have H0 := zh hds.ac0; have HN0 := zh hds.n0
   clear hda hds hwa hwb hb2 hr1 hx1 hx2 hx3 hy1 hy2 hy3
   unfold nxA at HR1
   go_wp2_with fail
   refine HR1.out.mono ?_
   rintro e w3 ⟨rfl, hb3⟩
   have HB3 := zh hb3
   have hr2 := drun_df w3 d gs ga gn cs ca cn D ⟨#[97, 98]⟩ (HDA.out.below hb3) HDS.out.Ok (by decide)
   rw [show D.run (ByteArray.data ⟨#[97, 98]⟩).toList = some y from HY1.out] at hr2
   unfold nxA at hr2
   have HR2 := zh hr2
   clear hr2 hb3 HR1
   go_wp2_with fail
   refine HR2.out.mono ?_
   rintro e w4 ⟨rfl, hb4⟩
   have HB4 := zh (below_tr HB3.out hb4 HB3.out.size)
   have hd4 := HDA.out.below HB4.out
   have ha1 := accept_df w4 d gs ga gn cs ca cn x D hd4 HX2.out
   have ha2 := accept_df w4 d gs ga gn cs ca cn y D hd4 HY2.out
   have ha3 := accept_df w4 d gs ga gn cs ca cn 0 D hd4 HN0.out
   rw [HX3.out] at ha1
   rw [HY3.out] at ha2
   rw [H0.out] at ha3
   unfold av at ha1 ha2 ha3
   have HA1 := zh ha1; have HA2 := zh ha2; have HA3 := zh ha3
   clear ha1 ha2 ha3 hd4 hb4 HR2
   go_wp2_with fail
   refine HA1.out.mono ?_
   rintro e w5 ⟨rfl, hw5⟩
   rw [hw5]
   clear hw5
   go_wp2_with fail
   refine HA2.out.mono ?_
   rintro e w6 ⟨rfl, hw6⟩
   rw [hw6]
   clear hw6
   go_wp2_with fail
   refine HA3.out.mono ?_
   rintro e w7 ⟨rfl, hw7⟩
   rw [hw7]
   clear hw7
   go_wp2_with fail
   go_ret
   exact ⟨rfl, below_tr HB2.out HB4.out HB2.out.size⟩
end Go.Proofs.YtejdfpieblkapaaGreatDoor

/- Great: how much is more than is asked of. -/
namespace Go.Proofs.YtejdfpieblkapaaGreatDoor
open Lib renaming hid → zh
open Go.RowKit Go.Shelf

def grS (ss : List ByteArray) : Nat := (ss.map fun s => s.size - 40).sum
theorem grS_snoc {ss : List ByteArray} {k : Nat} {s : ByteArray} (h : ss[k]? = some s) : grS (ss.take (k + 1)) = grS (ss.take k) + (s.size - 40) := by
 rw [List.take_add_one, h]; simp [grS]
theorem grS_zero : ∀ (ss : List ByteArray), grS ss = 0 ↔ ∀ s ∈ ss, s.size ≤ 40
 | [] => by simp [grS]
 | s :: ss => by
  have h1 := grS_zero ss
  simp only [grS, List.map_cons, List.sum_cons, List.forall_mem_cons] at *
  rw [← h1]
  omega
set_option maxRecDepth 100000 in
set_option maxHeartbeats 2000000 in
theorem great_any (w : World) (A : Option Addr) (n c : Nat) (ss : List ByteArray) (hl : ss.length = n) (hS : SsAt w A ss) (hn : n ≤ 1048576) (hs : ∀ s ∈ ss, s.size ≤ 1048576) :
  Calls Tryz.prog 25 #[.slice A n c] w fun e w' => (∃ x : Nat, e = .returned (.int .i64 x) ∧ x ≤ 1099512676352 ∧ (x = 0 ↔ n ≤ 6 ∧ ∀ s ∈ ss, s.size ≤ 40)) ∧ w' = w := by
 have HL := zh hl; have HS := zh hS; have HSZ := zh hs
 have hmx : max ((n : Int) - 6) 0 = ((n - 6 : Nat) : Int) := by omega
 have HMX := zh hmx
 clear hl hS hs hmx
 go_enter Tryz.func25, Tryz.ntmps25
 go_wp2_with fail
 go_loopw [3, 4] (fun v i wr => ∃ k x : Nat, k ≤ n ∧ i = .int .i64 k ∧ v = .int .i64 x ∧ Hid (x = n - 6 + grS (ss.take k)) ∧ x ≤ n + k * 1048576 ∧ Hid (wr = w)) (fun _ i _ => n - (intOf i).toNat)
 case atStart => exact ⟨0, n - 6, Nat.zero_le _, rfl, by congr 1, zh (by simp [grS]), by omega, zh rfl⟩
 case round =>
  obtain ⟨k, x, hk, rfl, rfl, HX, hx, HW⟩ := hrel
  have hw := HW.out
  subst hw
  clear HW
  by_cases hlt : k < n
  ·have hki : (k : Int) < n := by omega
   have hk0 : (0 : Int) ≤ k := by omega
   obtain ⟨s, hsk⟩ : ∃ s, ss[k]? = some s := ⟨_, List.getElem?_eq_getElem (by rw [HL.out]; exact hlt)⟩
   obtain ⟨b, o, rfl, hcs⟩ := HS.out k s hsk
   have hsz := HSZ.out s (List.mem_of_getElem? hsk)
   have HG := zh (grS_snoc hsk)
   obtain ⟨z, hz⟩ : ∃ z, z = s.size := ⟨_, rfl⟩
   have HZ := zh hz
   rw [← hz] at hsz
   have hkm : k * 1048576 ≤ 1048576 * 1048576 := Nat.mul_le_mul_right _ (by omega)
   clear hsk hz
   go_wp2_with fail
   go_roundw
   case rel => exact ⟨k + 1, x + (z - 40), by omega, by go_num, (by
    have h1 : wrap64 ((z : Int) - 40) = (z : Int) - 40 := by unfold wrap64; omega
    have h2 : max ((z : Int) - 40) 0 = ((z - 40 : Nat) : Int) := by omega
    have h3 : wrap64 ((x : Int) + ((z - 40 : Nat) : Int)) = (x : Int) + ((z - 40 : Nat) : Int) := by unfold wrap64; omega
    rw [← HZ.out, h1, h2, h3]; rfl), zh (by rw [HX.out, HG.out, HZ.out]; omega), by omega, zh (by trivial)⟩
   case measure => simp [intOf]; omega
  ·obtain rfl : k = n := by omega
   have h1 := HX.out
   rw [← HL.out, List.take_length, HL.out] at h1
   have H1 := zh h1
   have hkm : k * 1048576 ≤ 1048576 * 1048576 := Nat.mul_le_mul_right _ (by omega)
   clear h1
   go_wp2_with fail
   go_ret
   refine ⟨⟨x, rfl, by omega, ?_⟩, rfl⟩
   rw [H1.out, ← grS_zero ss]
   omega
end Go.Proofs.YtejdfpieblkapaaGreatDoor

/- Rows of numbers in law 7: same, has; a state's positions as numbers. -/
namespace Go.Proofs.YtejdfpieblkapaaGreatDoor
open Lib renaming hid → zh
open Go.RowKit Go.Shelf

attribute [local irreducible] seen
set_option maxRecDepth 100000 in
set_option maxHeartbeats 4000000 in
theorem same7_any (w : World) (A A' : Option Addr) (n n' c c' : Nat) (l l' : List Nat) (h : NsAt w A l) (h' : NsAt w A' l') (hl : l.length = n) (hl' : l'.length = n') (hn : n ≤ 1000000) :
  Calls Tryz.prog 35 #[.slice A n c, .slice A' n' c'] w (Ans (.bool (decide (l = l'))) w) := by
 by_cases hlen : n = n'
 ·subst hlen
  have HH := zh h; have HH' := zh h'; have HL := zh hl; have HL' := zh hl'
  obtain ⟨β, hβ⟩ : ∃ β, β = decide (l = l') := ⟨_, rfl⟩
  rw [← hβ]
  have HB := zh hβ
  clear h h' hl hl' hβ
  go_enter Tryz.func35, Tryz.ntmps35
  go_wp2_with fail
  go_loopw [5] (fun i wr => ∃ k : Nat, k ≤ n ∧ i = .int .i64 k ∧ Hid (l.take k = l'.take k) ∧ Hid (Below w.heap.size w wr)) (fun i _ => n - (intOf i).toNat)
  case atStart => exact ⟨0, Nat.zero_le _, rfl, (show l.take 0 = l'.take 0 from rfl), Below.refl _ _⟩
  case round =>
   obtain ⟨k, hk, rfl, HT, HW⟩ := hrel
   by_cases hlt : k < n
   ·have hki : (k : Int) < n := by omega
    have hk0 : (0 : Int) ≤ k := by omega
    obtain ⟨a, ha⟩ : ∃ a, l[k]? = some a := ⟨_, List.getElem?_eq_getElem (by rw [HL.out]; exact hlt)⟩
    obtain ⟨b, hb⟩ : ∃ b, l'[k]? = some b := ⟨_, List.getElem?_eq_getElem (by rw [HL'.out]; exact hlt)⟩
    obtain ⟨g, rfl, hc⟩ := (HH.out.below HW.out).get ha
    obtain ⟨g', rfl, hc'⟩ := (HH'.out.below HW.out).get hb
    have HA := zh ha; have HBB := zh hb
    clear ha hb
    go_wp2_with fail
    go_region
    have HW2 := zh (HW.out.trans ((Below.refl wr.heap.size wr).drew.mono HW.out.size))
    generalize wr.drew = wd at HW2 ⊢
    by_cases hab : a = b
    ·subst hab
     have HT2 := zh (take_snoc_eq HA.out HBB.out HT.out rfl)
     clear hc hc'
     go_wp2_with fail
     go_roundw
     case rel => exact ⟨k + 1, by omega, by go_num, HT2, HW2⟩
     case measure => simp [intOf]; omega
    ·have hf : β = false := by
      rw [HB.out, decide_eq_false_iff_not]
      intro e
      rw [e] at HA
      rw [HA.out] at HBB
      exact hab (Option.some.inj HBB.out)
     have hne := pv_bne hab
     have hne2 : ¬ (a : Int) = b := by omega
     subst hf
     clear hc hc'
     go_wp2_with fail
     go_ret
     exact ⟨rfl, HW2.out⟩
   ·obtain rfl : k = n := by omega
    have hf : β = true := by
     rw [HB.out, decide_eq_true_eq]
     have h1 := HT.out
     rw [List.take_of_length_le (by rw [HL.out]; exact Nat.le_refl _), List.take_of_length_le (by rw [HL'.out]; exact Nat.le_refl _)] at h1
     exact h1
    subst hf
    go_wp2_with fail
    go_ret
    exact ⟨rfl, HW.out⟩
 ·have hf : decide (l = l') = false := by
   rw [decide_eq_false_iff_not]
   intro e
   rw [e, hl'] at hl
   exact hlen hl.symm
  rw [hf]
  have hne : ((n : Int) == (n' : Int)) = false := by rw [beq_eq_false_iff_ne]; omega
  have hne2 : ¬ (n : Int) = n' := by omega
  clear h h' hl hl' hf hlen
  go_enter Tryz.func35, Tryz.ntmps35
  go_wp2_with fail
  go_ret
  exact ⟨rfl, Below.refl _ _⟩

set_option maxRecDepth 100000 in
set_option maxHeartbeats 2000000 in
theorem has7_any (w : World) (A : Option Addr) (n c q : Nat) (l : List Nat) (h : NsAt w A l) (hl : l.length = n) (hn : n ≤ 1000000) :
  Calls Tryz.prog 33 #[.slice A n c, .int .i64 q] w fun e w' => e = .returned (.bool (decide (q ∈ l))) ∧ w' = w := by
 have HH := zh h; have HL := zh hl
 obtain ⟨β, hβ⟩ : ∃ β, β = decide (q ∈ l) := ⟨_, rfl⟩
 rw [← hβ]
 have HB := zh hβ
 clear h hl hβ
 go_enter Tryz.func33, Tryz.ntmps33
 go_wp2_with fail
 go_loopw [5] (fun i wr => ∃ k : Nat, k ≤ n ∧ i = .int .i64 k ∧ Hid (q ∉ l.take k) ∧ Hid (wr = w)) (fun i _ => n - (intOf i).toNat)
 case atStart => exact ⟨0, Nat.zero_le _, rfl, zh (by simp), zh rfl⟩
 case round =>
  obtain ⟨k, hk, rfl, HT, HW⟩ := hrel
  have hw := HW.out
  subst hw
  clear HW
  by_cases hlt : k < n
  ·have hki : (k : Int) < n := by omega
   have hk0 : (0 : Int) ≤ k := by omega
   obtain ⟨a, ha⟩ : ∃ a, l[k]? = some a := ⟨_, List.getElem?_eq_getElem (by rw [HL.out]; exact hlt)⟩
   obtain ⟨g, rfl, hc⟩ := HH.out.get ha
   have HA := zh ha
   clear ha
   by_cases hab : a = q
   ·subst hab
    have hm : a ∈ l := List.mem_of_getElem? HA.out
    have hb := HB.out
    rw [decide_eq_true hm] at hb
    subst hb
    clear hm
    go_wp2_with fail
    go_ret
    exact ⟨rfl, rfl⟩
   ·have hne2 : ¬ (a : Int) = q := by omega
    have HT2 : Hid (q ∉ l.take (k + 1)) := zh (by
     rw [List.take_add_one, HA.out]
     simp only [Option.toList, List.mem_append, List.mem_singleton]
     rintro (h | h)
     ·exact HT.out h
     ·exact hab h.symm)
    go_wp2_with fail
    go_roundw
    case rel => exact ⟨k + 1, by omega, by go_num, HT2, zh (by trivial)⟩
    case measure => simp [intOf]; omega
  ·obtain rfl : k = n := by omega
   have hm : ¬ q ∈ l := by
    have h1 := HT.out
    rwa [List.take_of_length_le (by rw [HL.out]; exact Nat.le_refl _)] at h1
   have hb := HB.out
   rw [decide_eq_false hm] at hb
   subst hb
   clear hm
   go_wp2_with fail
   go_ret
   exact ⟨rfl, rfl⟩
def psN (D : Df) (n : Nat) : List Nat := nbits (D.ps n) D.nw
theorem psN_mem {w : World} {d gs ga gn cs ca cn : Nat} {rs : List Rx} {D : Df} (h : DfAt w d D gs ga gn cs ca cn) (hs : DfS rs D) {n : Nat} (hn : n < D.N) : (∀ q, q ∈ psN D n ↔ bt (D.ps n) q = true) ∧ (psN D n).Pairwise (· < ·) := by
 obtain ⟨_, _, _, hl⟩ := h.p n hn
 have hw := hs.pw n hn
 have h1 : ∀ q, q ∈ psN D n ↔ bt (D.ps n) q = true := fun q => by
  unfold psN
  rw [← hl]
  exact nbits_mem _ hw q
 have h2 : (psN D n).Pairwise (· < ·) := (nbits_up _ hw _).1
 exact ⟨h1, h2⟩
theorem psN_len {w : World} {d gs ga gn cs ca cn : Nat} {rs : List Rx} {D : Df} (h : DfAt w d D gs ga gn cs ca cn) (hs : DfS rs D) {n : Nat} (hn : n < D.N) (hc2 : cntS rs ≤ 2000) : (psN D n).length ≤ 2000 := by
 obtain ⟨h1, h2⟩ := psN_mem h hs hn
 exact Nat.le_trans (nodup_lt (cntS rs) _ (h2.imp (fun h => by omega)) (fun q hq => hs.pN n hn q ((h1 q).1 hq))) hc2
theorem pos7_any (w : World) (d gs ga gn cs ca cn n : Nat) (rs : List Rx) (D : Df) (h : DfAt w d D gs ga gn cs ca cn) (hs : DfS rs D) (hn : n < D.N) (hT : TabH w) (hc2 : cntS rs ≤ 2000) :
  Calls Tryz.prog 32 #[ptr d, .int .i64 n] w fun e w' => ∃ (A : Option Addr) (m c : Nat), e = .returned (.slice A m c) ∧ m = (psN D n).length ∧ NsAt w' A (psN D n) ∧ Below w.heap.size w w' := by
 have hm := psN_len h hs hn hc2
 have hnw : D.nw ≤ 100 := by
  rw [hs.nw]
  show (cntS rs + 63) / 64 ≤ 100
  omega
 have e : (sbits (D.ps n) D.nw).length = (psN D n).length := by rw [sbits_eq, List.length_map]; rfl
 refine (positions_df w d gs ga gn cs ca cn n D h hn hT (by rw [e]; omega) (by omega)).mono ?_
 rintro e' w' ⟨v, rfl, ho, hb⟩
 rw [e] at ho
 obtain ⟨A, c, rfl, _⟩ := own_form ho
 refine ⟨A, _, c, rfl, rfl, ?_, hb⟩
 have e2 : (sbits (D.ps n) D.nw).map (Value.int .i64) = (psN D n).map pv := by
  rw [sbits_eq, List.map_map]; rfl
 rw [e2] at ho
 exact own_ns ho
theorem rise_ext : ∀ {a b : List Nat}, a.Pairwise (· < ·) → b.Pairwise (· < ·) → (∀ q, q ∈ a ↔ q ∈ b) → a = b
 | [], [], _, _, _ => rfl
 | [], y :: b, _, _, h => absurd ((h y).2 (List.mem_cons_self ..)) (by simp)
 | x :: a, [], _, _, h => absurd ((h x).1 (List.mem_cons_self ..)) (by simp)
 | x :: a, y :: b, ha, hb, h => by
  rw [List.pairwise_cons] at ha hb
  have hxy : x = y := by
   rcases List.mem_cons.1 ((h x).1 (List.mem_cons_self ..)) with e | e
   ·exact e
   ·rcases List.mem_cons.1 ((h y).2 (List.mem_cons_self ..)) with e' | e'
    ·exact e'.symm
    ·have := hb.1 x e; have := ha.1 y e'; omega
  subst hxy
  rw [rise_ext ha.2 hb.2 (fun q => ?_)]
  constructor
  ·intro hq
   rcases List.mem_cons.1 ((h q).1 (List.mem_cons_of_mem _ hq)) with e | e
   ·have := ha.1 q hq; omega
   ·exact e
  ·intro hq
   rcases List.mem_cons.1 ((h q).2 (List.mem_cons_of_mem _ hq)) with e | e
   ·have := hb.1 q hq; omega
   ·exact e
def isQ (rs : List Rx) (D : Df) (n q : Nat) : Bool := if n = 0 then (fstS rs 0).any fun l => decide (q ∈ l) else (psN D n).any fun p => folS rs 0 p q
def wnt (rs : List Rx) (D : Df) (n : Nat) (c : UInt8) (m : Nat) : List Nat := (List.range m).filter fun q => isQ rs D n q && hsS rs q c
theorem wnt_succ (rs : List Rx) (D : Df) (n : Nat) (c : UInt8) (m : Nat) : wnt rs D n c (m + 1) = wnt rs D n c m ++ if (isQ rs D n m && hsS rs m c) = true then [m] else [] := by
 unfold wnt
 rw [List.range_succ, List.filter_append]
 cases h : (isQ rs D n m && hsS rs m c) <;> simp [h]
theorem isQ_iff {w : World} {d gs ga gn cs ca cn : Nat} {rs : List Rx} {D : Df} (h : DfAt w d D gs ga gn cs ca cn) (hs : DfS rs D) {n : Nat} (hn : n < D.N) (q : Nat) : isQ rs D n q = true ↔ AhD rs D n q := by
 have hm := (psN_mem h hs hn).1
 unfold isQ AhD
 by_cases h0 : n = 0
 ·rw [if_pos h0]
  simp only [List.any_eq_true, decide_eq_true_eq]
  constructor
  ·rintro ⟨l, hl, hq⟩
   obtain ⟨i, hi⟩ := List.getElem?_of_mem hl
   exact .inl ⟨h0, i, l, hi, hq⟩
  ·rintro (⟨_, i, l, hi, hq⟩ | ⟨h1, _⟩)
   ·exact ⟨l, List.mem_of_getElem? hi, hq⟩
   ·exact absurd h0 h1
 ·rw [if_neg h0]
  simp only [List.any_eq_true]
  constructor
  ·rintro ⟨p, hp, hf⟩
   exact .inr ⟨h0, p, (hm p).1 hp, hf⟩
  ·rintro (⟨h1, _⟩ | ⟨_, p, hp, hf⟩)
   ·exact absurd h1 h0
   ·exact ⟨p, (hm p).2 hp, hf⟩
theorem ahD_lt {rs : List Rx} {D : Df} (hs : DfS rs D) {n : Nat} (hn : n < D.N) {q : Nat} (h : AhD rs D n q) : q < cntS rs := by
 rcases h with ⟨_, h⟩ | ⟨_, p, hp, hf⟩
 ·exact h.lt
 ·exact folS_lt (hs.pN n hn p hp) hf
theorem wnt_step {w : World} {d gs ga gn cs ca cn : Nat} {rs : List Rx} {D : Df} (h : DfAt w d D gs ga gn cs ca cn) (hs : DfS rs D) {n : Nat} (hn : n < D.N) (c : UInt8) : (D.nx n (D.cl c.toNat) = none ∧ wnt rs D n c (cntS rs) = []) ∨ ∃ k, D.nx n (D.cl c.toNat) = some k ∧ 0 < k ∧ k < D.N ∧ wnt rs D n c (cntS rs) = psN D k ∧ 0 < (psN D k).length := by
 have hmem : ∀ q, q ∈ wnt rs D n c (cntS rs) ↔ AhD rs D n q ∧ hsS rs q c = true := fun q => by
  unfold wnt
  rw [List.mem_filter, List.mem_range, Bool.and_eq_true, isQ_iff h hs hn]
  constructor
  ·exact fun h => h.2
  ·exact fun h => ⟨ahD_lt hs hn h.1, h⟩
 rcases hs.step n hn c with ⟨h1, h2⟩ | ⟨k, h1, h2, h3, h4⟩
 ·exact .inl ⟨h1, List.eq_nil_iff_forall_not_mem.2 (fun q hq => h2 q ((hmem q).1 hq))⟩
 ·obtain ⟨p1, p2⟩ := psN_mem h hs h3
  have he : wnt rs D n c (cntS rs) = psN D k := rise_ext (List.Pairwise.filter _ List.pairwise_lt_range) p2 (fun q => by rw [hmem q, p1 q, h4 q])
  obtain ⟨q, hq⟩ := hs.ne k h2 h3
  exact .inr ⟨k, h1, h2, h3, he, List.length_pos_of_mem ((p1 q).2 hq)⟩
theorem psN_zero {w : World} {d gs ga gn cs ca cn : Nat} {rs : List Rx} {D : Df} (h : DfAt w d D gs ga gn cs ca cn) (hs : DfS rs D) : psN D 0 = [] :=
 List.eq_nil_iff_forall_not_mem.2 (fun q hq => by
  have := ((psN_mem h hs hs.n0).1 q).1 hq
  rw [hs.p0] at this; cases this)
theorem psN_ne {w : World} {d gs ga gn cs ca cn : Nat} {rs : List Rx} {D : Df} (h : DfAt w d D gs ga gn cs ca cn) (hs : DfS rs D) {k n : Nat} (hk : 0 < k) (hkn : k < n) (hn : n < D.N) : psN D k ≠ psN D n := fun e => by
 obtain ⟨p1, _⟩ := psN_mem h hs (show k < D.N by omega)
 obtain ⟨p2, _⟩ := psN_mem h hs hn
 obtain ⟨_, _, _, hl1⟩ := h.p k (by omega)
 obtain ⟨_, _, _, hl2⟩ := h.p n hn
 have : D.ps k = D.ps n := bt_ext (by rw [hl1, hl2]) (hs.pw k (by omega)) (hs.pw n hn) (fun q => by
  rw [Bool.eq_iff_iff, ← p1 q, ← p2 q, e])
 have := hs.inj k n hk (by omega) (by omega) hn this
 omega
end Go.Proofs.YtejdfpieblkapaaGreatDoor
