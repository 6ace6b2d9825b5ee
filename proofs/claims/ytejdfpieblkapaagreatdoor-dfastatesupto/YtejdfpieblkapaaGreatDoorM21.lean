/- Carried from another seat. -/
import Derived.Test.YtejdfpieblkapaaGreatDoorM16
import Derived.Shelf.Small.Strs
namespace Go.Proofs.YtejdfpieblkapaaGreatDoor
open Lib renaming hid → zh
open Go.RowKit Go.Shelf


def ren137 : Go.Shelf.Ren := ⟨fun | 137 => 110 | 217 => 131 | 266 => 151 | n => n, fun n => n, fun n => n⟩
theorem lays137 : Go.Proofs.Lays.n137 Tryz.prog ren137 := {
 mixed := by kernel_rfl
 f137 := Tryz.func110.trans (congrArg some (by kernel_rfl))
 f217 := Tryz.func131.trans (congrArg some (by kernel_rfl))
 f266 := Tryz.func151.trans (congrArg some (by kernel_rfl))
 t3 := Tryz.underlying3
 a3 := Tryz.isAgg3
 z3 := Tryz.sizeOf3
 v3 := Tryz.zeroValue3
 t5 := Tryz.underlying5
 a5 := Tryz.isAgg5
 z5 := Tryz.sizeOf5
 v5 := Tryz.zeroValue5
 t9 := Tryz.underlying9
 a9 := Tryz.isAgg9
 z9 := Tryz.sizeOf9
 v9 := Tryz.zeroValue9 }
theorem indexByte_any (s : ByteArray) (c : Nat) (w : World) : Calls Tryz.prog 110 #[.string s, .int .u8 c] w fun e w' => e = .returned (.int .i64 (Lib.indexByte s.data.toList c.toUInt8)) ∧ w' = w := Any.strings_IndexByte lays137 s c w

def PsB (w : World) (P : Nat) (s : ByteArray) (i : Nat) (ov : Value) (d : Int) (l : Bool) : Prop := w.heap[P]? = some (.cells #[.string s, .int .i64 i, ov, .int .i64 d, .bool l] 123 (0, 0))
def nx (l : List UInt8) (i : Nat) : Nat := (l[i]?.getD 0).toNat
theorem nx_lt (l : List UInt8) (i : Nat) : nx l i < 256 := (l[i]?.getD 0).toNat_lt

set_option maxHeartbeats 1000000 in
theorem next_any (w : World) (P : Nat) (s : ByteArray) (i : Nat) (ov : Value) (d : Int) (l : Bool) (h : PsB w P s i ov d l) (hi : i ≤ s.size) (_hs : s.size ≤ 1000000) :
  Calls Tryz.prog 111 #[ptr P] w fun e w' => e = .returned (.int .u8 (nx s.data.toList i)) ∧ PsB w' P s i ov d l ∧ Below w.heap.size w w' := by
 unfold PsB at h
 have c0 : w.cell? ⟨P, 0, none⟩ = some (.string s) := by rw [Lib.cell_of_heap h]; rfl
 have c1 : w.cell? ⟨P, 1, none⟩ = some (.int .i64 i) := by rw [Lib.cell_of_heap h]; rfl
 have HH := zh h
 clear h
 by_cases hlt : i < s.size
 ·have hne : (i : Int) ≠ s.size := by omega
  have hii : (i : Int) < s.size := by omega
  go_enter Tryz.func111, Tryz.ntmps111
  go_wp2_with fail
  go_quiet (fail)
  go_wp2_with fail
  go_quiet (fail)
  go_wp2
  go_ret
  refine ⟨?_, HH.out, (below_drewN _ _ _).trans (below_drewN _ _ _)⟩
  have : nx s.data.toList i = s[i].toNat := by
   unfold nx
   rw [List.getElem?_eq_getElem (by rw [← Lib.size_eq]; exact hlt)]
   simp
   rfl
  rw [this]; rfl
 ·obtain rfl : i = s.size := by omega
  go_enter Tryz.func111, Tryz.ntmps111
  go_wp2_with fail
  go_quiet (fail)
  go_wp2
  go_ret
  refine ⟨?_, HH.out, below_drewN _ _ _⟩
  have : nx s.data.toList s.size = 0 := by
   unfold nx
   rw [List.getElem?_eq_none (by rw [← Lib.size_eq]; exact Nat.le_refl _)]
   rfl
  rw [this]; rfl

theorem PsB.below {w w' : World} {P : Nat} {s : ByteArray} {i : Nat} {ov : Value} {d : Int} {l : Bool} (h : PsB w P s i ov d l) (hb : Below w.heap.size w w') : PsB w' P s i ov d l := (hb.block P (lt_of_heap h)).trans h
theorem PsB.step {w : World} {P : Nat} {s : ByteArray} {i : Nat} {ov : Value} {d : Int} {l : Bool} (h : PsB w P s i ov d l) (j : Nat) : PsB (w.setCell ⟨P, 1, none⟩ (.int .i64 j)) P s j ov d l := by
 unfold PsB at *
 rw [set_heap w P 1 _ _ _ _ h]; rfl
theorem nx_in {s : ByteArray} {i c : Nat} (h : nx s.data.toList i = c) (hc : 0 < c) : i < s.size := by
 rcases Nat.lt_or_ge i s.size with h' | h'
 ·exact h'
 ·unfold nx at h
  rw [List.getElem?_eq_none (by rw [← Lib.size_eq]; exact h')] at h
  simp at h
  omega

set_option maxHeartbeats 1000000 in
theorem take_no (w : World) (P c : Nat) (s : ByteArray) (i : Nat) (ov : Value) (d : Int) (l : Bool) (h : PsB w P s i ov d l) (hi : i ≤ s.size) (hs : s.size ≤ 1000000) (hc : nx s.data.toList i ≠ c) :
  Calls Tryz.prog 106 #[ptr P, .int .u8 c] w fun e w' => e = .returned (.bool false) ∧ PsB w' P s i ov d l ∧ Below w.heap.size w w' := by
 have HN := zh (next_any w P s i ov d l h hi hs)
 have hci : ((nx s.data.toList i : Nat) : Int) ≠ (c : Int) := by omega
 generalize nx s.data.toList i = x at HN hci
 clear h hc
 go_enter Tryz.func106, Tryz.ntmps106
 go_wp2_with fail
 refine HN.out.mono ?_
 rintro e w1 ⟨rfl, h1, h2⟩
 have HF := zh (And.intro h1 h2)
 clear h1 h2
 go_wp2
 go_ret
 exact ⟨rfl, HF.out.1, HF.out.2⟩
set_option maxHeartbeats 1000000 in
theorem take_yes (w : World) (P c : Nat) (s : ByteArray) (i : Nat) (ov : Value) (d : Int) (l : Bool) (h : PsB w P s i ov d l) (hi : i ≤ s.size) (hs : s.size ≤ 1000000) (hc : nx s.data.toList i = c) (hc0 : 0 < c) :
  Calls Tryz.prog 106 #[ptr P, .int .u8 c] w fun e w' => e = .returned (.bool true) ∧ PsB w' P s (i + 1) ov d l ∧ Kb (fun j => j = P) w w' := by
 have HN := zh (next_any w P s i ov d l h hi hs)
 have hlt := nx_in hc hc0
 rw [hc] at HN
 have hwr : IntKind.i64.wrap ((i : Int) + 1) = ((i + 1 : Nat) : Int) := by rw [IntWalk.i64_in _ (by omega)]; omega
 clear h hc
 go_enter Tryz.func106, Tryz.ntmps106
 go_wp2_with fail
 refine HN.out.mono ?_
 rintro e w1 ⟨rfl, h1, h2⟩
 have c1 : w1.cell? ⟨P, 1, none⟩ = some (.int .i64 i) := by unfold PsB at h1; rw [Lib.cell_of_heap h1]; rfl
 have f1 : w1.frozen? ⟨P, 1, none⟩ = false := Lib.frozen_of_heap h1 1
 have HF := zh (And.intro h1 h2)
 clear h1 h2
 generalize hj : ((i + 1 : Nat) : Int) = j at hwr
 have HJ := zh hj
 clear hj
 go_wp2
 go_ret
 refine ⟨rfl, by rw [← HJ.out]; exact HF.out.1.step (i + 1), (Kb.of_below _ HF.out.2).trans (Kb.setCell w1 ⟨P, 1, none⟩ _) (fun k _ hk => hk)⟩
end Go.Proofs.YtejdfpieblkapaaGreatDoor

/- Carried from another seat. -/
namespace Go.Proofs.YtejdfpieblkapaaGreatDoor
open Lib renaming hid → zh
open Go.RowKit Go.Shelf


theorem indexByte_range (l : List UInt8) (c : UInt8) : -1 ≤ Lib.indexByte l c ∧ Lib.indexByte l c < l.length := by
 induction l with
 | nil => simp [Lib.indexByte]
 | cons b l ih =>
  simp only [Lib.indexByte]
  split
  ·simp
  ·split
   ·simp; omega
   ·rename_i h; simp at h; simp; omega

def HX : ByteArray := ⟨#[48, 49, 50, 51, 52, 53, 54, 55, 56, 57, 97, 98, 99, 100, 101, 102]⟩
def hexP (L : List UInt8) (i : Nat) : Nat → Option Nat
 | 0 => some 0
 | k + 1 => (hexP L i k).bind fun n => if Lib.indexByte HX.data.toList (nx L (i + k)).toUInt8 < 0 then none else some (n * 16 + (Lib.indexByte HX.data.toList (nx L (i + k)).toUInt8).toNat)
theorem hexP_lt (L : List UInt8) (i k n : Nat) (h : hexP L i k = some n) : n < 16 ^ k := by
 induction k generalizing n with
 | zero => simp [hexP] at h; omega
 | succ k ih =>
  simp only [hexP] at h
  obtain ⟨m, hm, hh⟩ := Option.bind_eq_some_iff.1 h
  have := ih m hm
  split at hh
  ·cases hh
  ·have hr := (indexByte_range HX.data.toList (nx L (i + k)).toUInt8).2
   have hlen : HX.data.toList.length = 16 := rfl
   rw [hlen] at hr
   injection hh with hh
   rw [Nat.pow_succ]
   omega
def RdTo (P : Nat) (s : ByteArray) (ov : Value) (d : Int) (l : Bool) (r : Option (Nat × Nat)) (w : World) (e : Ending) (w' : World) : Prop :=
 Kb (fun j => j = P) w w' ∧ ((∃ b j, r = some (b, j) ∧ e = .returned (.tuple #[.int .u8 b, .bool true]) ∧ PsB w' P s j ov d l) ∨ (r = none ∧ e = .returned (.tuple #[.int .u8 0, .bool false]) ∧ ∃ j, j ≤ s.size ∧ PsB w' P s j ov d l))
def hexF (L : List UInt8) (i : Nat) : Option (Nat × Nat) := (hexP L i 2).map fun n => (n, i + 2)
theorem hexP_in {s : ByteArray} {i k n : Nat} (h : hexP s.data.toList i k = some n) (hi : i ≤ s.size) : i + k ≤ s.size := by
 induction k generalizing n with
 | zero => omega
 | succ k ih =>
  simp only [hexP] at h
  obtain ⟨m, hm, hh⟩ := Option.bind_eq_some_iff.1 h
  have := ih hm
  split at hh
  ·cases hh
  ·rename_i hx
   rcases Nat.lt_or_ge (i + k) s.size with h' | h'
   ·omega
   ·exfalso
    apply hx
    unfold nx
    rw [List.getElem?_eq_none (by rw [← Lib.size_eq]; exact h')]
    decide

theorem hexP_none {L : List UInt8} {i k m : Nat} (h : hexP L i k = none) (hm : k ≤ m) : hexP L i m = none := by
 induction m with
 | zero =>
  obtain rfl : k = 0 := by omega
  exact h
 | succ m ih =>
  rcases Nat.lt_or_ge m k with h' | h'
  ·obtain rfl : k = m + 1 := by omega
   exact h
  ·simp only [hexP]; rw [ih h']; rfl

set_option maxRecDepth 100000 in
set_option maxHeartbeats 2000000 in
theorem hex_any (w : World) (P : Nat) (s : ByteArray) (i : Nat) (ov : Value) (d : Int) (l : Bool) (h : PsB w P s i ov d l) (hi : i ≤ s.size) (hs : s.size ≤ 1000000) :
  Calls Tryz.prog 173 #[ptr P] w (RdTo P s ov d l (hexF s.data.toList i) w) := by
 have HH := zh h
 clear h
 go_enter Tryz.func173, Tryz.ntmps173
 go_wp2_with fail
 go_loopw [4, 6] (fun a k wr => ∃ (j n : Nat), j ≤ 2 ∧ k = .int .i64 j ∧ a = .int .i64 n ∧ n < 65536 ∧ Hid (hexP s.data.toList i j = some n) ∧ Hid (PsB wr P s (i + j) ov d l) ∧ Hid (Kb (fun j => j = P) w wr)) (fun _ k _ => 2 - (intOf k).toNat)
 case atStart => exact ⟨0, 0, by omega, rfl, rfl, by omega, rfl, HH.out, Kb.refl _ _⟩
 case round =>
  obtain ⟨j, n, hj, rfl, rfl, hn, HX1, HP, HK⟩ := hrel
  have hij := hexP_in HX1.out hi
  by_cases hlt : j < 2
  ·have hji : (j : Int) < 2 := by omega
   have HN := zh (next_any wr P s (i + j) ov d l HP.out hij hs)
   have hxs : hexP s.data.toList i (j + 1) = if Lib.indexByte HX.data.toList (nx s.data.toList (i + j)).toUInt8 < 0 then none else some (n * 16 + (Lib.indexByte HX.data.toList (nx s.data.toList (i + j)).toUInt8).toNat) := by
    simp only [hexP]; rw [HX1.out]; rfl
   have hrg := indexByte_range HX.data.toList (nx s.data.toList (i + j)).toUInt8
   have hl16 : HX.data.toList.length = 16 := rfl
   rw [hl16] at hrg
   obtain ⟨x, hx⟩ : ∃ x, x = nx s.data.toList (i + j) := ⟨_, rfl⟩
   rw [← hx] at HN hxs hrg
   obtain ⟨dg, hdg⟩ : ∃ dg, dg = Lib.indexByte HX.data.toList x.toUInt8 := ⟨_, rfl⟩
   have HIB := fun w' => indexByte_any HX x w'
   rw [← hdg] at HIB hxs hrg
   have HXS := zh hxs
   clear hxs hx hdg
   go_wp2_with fail
   refine HN.out.mono ?_
   rintro e w1 ⟨rfl, h1, h2⟩
   go_wp2_with fail
   refine (HIB w1).mono ?_
   rintro e w2 ⟨rfl, rfl⟩
   have HKb := zh (HK.out.trans (Kb.of_below (fun j => j = P) h2) (fun _ _ h => h))
   have c1 : w2.cell? ⟨P, 1, none⟩ = some (.int .i64 ((i + j : Nat) : Int)) := by unfold PsB at h1; rw [Lib.cell_of_heap h1]; rfl
   have f1 : w2.frozen? ⟨P, 1, none⟩ = false := Lib.frozen_of_heap h1 1
   have H1 := zh h1
   clear h1 h2 HIB
   by_cases hdg : dg < 0
   ·have hno : hexF s.data.toList i = none := by
     unfold hexF
     rw [hexP_none (k := j + 1) (by rw [HXS.out, if_pos hdg]) (by omega)]; rfl
    have HNO := zh hno
    clear hno
    go_wp2_with fail
    refine bodyPost_ret (results_tmp2 rfl _ _ _) rfl ?_
    exact ⟨HKb.out, .inr ⟨HNO.out, rfl, i + j, hij, H1.out⟩⟩
   ·have hnn : hexP s.data.toList i (j + 1) = some (n * 16 + dg.toNat) := by rw [HXS.out, if_neg hdg]
    have hij1 := hexP_in hnn hi
    obtain ⟨dn, hdn⟩ : ∃ dn : Nat, dg = dn := ⟨dg.toNat, by omega⟩
    subst hdn
    have hn2 := hexP_lt _ _ _ _ hnn
    have hpw : 16 ^ (j + 1) ≤ 256 := by rcases (show j = 0 ∨ j = 1 by omega) with rfl | rfl <;> decide
    simp only [Int.toNat_natCast] at hnn hn2
    have HNN := zh hnn
    have e1 : IntKind.i64.wrap ((n : Int) * 16) = ((n * 16 : Nat) : Int) := by rw [IntWalk.i64_in _ (by omega)]; omega
    have e2 : IntKind.i64.wrap (((n * 16 : Nat) : Int) + dn) = ((n * 16 + dn : Nat) : Int) := by rw [IntWalk.i64_in _ (by omega)]; omega
    have e3 : IntKind.i64.wrap (((i + j : Nat) : Int) + 1) = ((i + (j + 1) : Nat) : Int) := by rw [IntWalk.i64_in _ (by omega)]; omega
    generalize hm1 : ((n * 16 : Nat) : Int) = m1 at e1 e2
    generalize hm2 : ((n * 16 + dn : Nat) : Int) = m2 at e2
    generalize hm3 : ((i + (j + 1) : Nat) : Int) = m3 at e3
    generalize hm4 : ((i + j : Nat) : Int) = m4 at e3 c1
    have HM2 := zh hm2; have HM3 := zh hm3
    clear hm1 hm2 hm3 hm4 hnn HXS
    go_wp2
    go_roundw
    case rel => exact ⟨j + 1, n * 16 + dn, by omega, by go_num, by rw [HM2.out], by omega, HNN.out, by rw [← HM3.out]; exact H1.out.step _, HKb.out.trans (Kb.setCell w2 ⟨P, 1, none⟩ _) (fun _ _ h => h)⟩
    case measure => simp [intOf]; omega
  ·obtain rfl : j = 2 := by omega
   have hn2 := hexP_lt _ _ _ _ HX1.out
   have hn3 : n < 256 := by simpa using hn2
   have hyes : hexF s.data.toList i = some (n, i + 2) := by unfold hexF; rw [HX1.out]; rfl
   have e1 : IntKind.u8.wrap (n : Int) = (n : Int) := by rw [IntKind.wrap_u8]; omega
   have HY := zh hyes
   clear hyes
   go_wp2_with fail
   refine bodyPost_ret (results_tmp2 rfl _ _ _) rfl ?_
   exact ⟨HK.out, .inl ⟨n, i + 2, HY.out, rfl, HP.out⟩⟩
end Go.Proofs.YtejdfpieblkapaaGreatDoor

/- Carried from another seat. -/
namespace Go.Proofs.YtejdfpieblkapaaGreatDoor
open Lib renaming hid → zh
open Go.RowKit Go.Shelf


def inS (sp : ByteArray) (c : Nat) : Bool := decide (0 ≤ Lib.indexByte sp.data.toList c.toUInt8)
def escF (sp : ByteArray) (L : List UInt8) (i : Nat) : Option (Nat × Nat) :=
 if nx L i = 120 then hexF L (i + 1) else if nx L i = 110 then some (10, i + 1) else if nx L i = 116 then some (9, i + 1) else if nx L i = 115 then some (32, i + 1) else if inS sp (nx L i) = true then some (nx L i, i + 1) else none
def letF (sp : ByteArray) (L : List UInt8) (i : Nat) : Option (Nat × Nat) :=
 if nx L i = 92 then escF sp L (i + 1) else if nx L i ≤ 32 ∨ 126 < nx L i ∨ inS sp (nx L i) = true then none else some (nx L i, i + 1)

theorem inS_in {sp s : ByteArray} {i : Nat} (h : inS sp (nx s.data.toList i) = true) (h0 : inS sp 0 = false) : i < s.size := by
 rcases Nat.lt_or_ge i s.size with h' | h'
 ·exact h'
 ·unfold nx at h
  rw [List.getElem?_eq_none (by rw [← Lib.size_eq]; exact h')] at h
  have h2 : inS sp 0 = true := h
  rw [h0] at h2; cases h2

set_option maxRecDepth 100000 in
set_option maxHeartbeats 2000000 in
theorem escaped_any (w : World) (P : Nat) (sp s : ByteArray) (i : Nat) (ov : Value) (d : Int) (l : Bool) (h : PsB w P s i ov d l) (hi : i ≤ s.size) (hs : s.size ≤ 1000000) (hsp : inS sp 0 = false) :
  Calls Tryz.prog 155 #[ptr P, .string sp] w (RdTo P s ov d l (escF sp s.data.toList i) w) := by
 have HN := zh (next_any w P s i ov d l h hi hs)
 have hcases : ∀ x, nx s.data.toList i = x → 0 < x → i < s.size := fun x hx h0 => nx_in hx h0
 have hins := fun h => inS_in (sp := sp) (s := s) (i := i) h hsp
 have hesc : escF sp s.data.toList i = if nx s.data.toList i = 120 then hexF s.data.toList (i + 1) else if nx s.data.toList i = 110 then some (10, i + 1) else if nx s.data.toList i = 116 then some (9, i + 1) else if nx s.data.toList i = 115 then some (32, i + 1) else if inS sp (nx s.data.toList i) = true then some (nx s.data.toList i, i + 1) else none := rfl
 rw [hesc]
 generalize nx s.data.toList i = x at HN hcases hins
 have HC := zh hcases
 have HIB := zh (fun w' => indexByte_any sp x w')
 have HI := zh hins
 clear h hcases hins hesc
 obtain ⟨m3, hm3⟩ : ∃ m3 : Int, m3 = ((i + 1 : Nat) : Int) := ⟨_, rfl⟩
 have e3 : IntKind.i64.wrap ((i : Int) + 1) = m3 := by rw [hm3, IntWalk.i64_in _ (by omega)]; omega
 have HM3 := zh hm3
 clear hm3
 by_cases h1 : x = 120
 ·subst h1
  rw [if_pos rfl]
  have hlt := HC.out 120 rfl (by omega)
  go_enter Tryz.func155, Tryz.ntmps155
  go_wp2_with fail
  refine HN.out.mono ?_
  rintro e w1 ⟨rfl, h1, h2⟩
  have c1 : w1.cell? ⟨P, 1, none⟩ = some (.int .i64 i) := by unfold PsB at h1; rw [Lib.cell_of_heap h1]; rfl
  have f1 : w1.frozen? ⟨P, 1, none⟩ = false := Lib.frozen_of_heap h1 1
  have hx := hex_any (w1.setCell ⟨P, 1, none⟩ (.int .i64 m3)) P s (i + 1) ov d l (by rw [HM3.out]; exact h1.step (i + 1)) (by omega) hs
  have HX1 := zh hx
  have HK := zh ((Kb.of_below (fun j => j = P) h2).trans (Kb.setCell w1 ⟨P, 1, none⟩ (.int .i64 m3)) (fun _ _ h => h))
  clear h1 h2 hx
  go_wp2_with fail
  refine HX1.out.mono ?_
  rintro e w2 ⟨q1, q2⟩
  have HQ := zh q1
  clear q1
  rcases q2 with ⟨b, j, hr, rfl, hp⟩ | ⟨hr, rfl, j, hj, hp⟩
  ·have HR := zh (And.intro hr hp)
   clear hr hp
   go_wp2_with fail
   refine bodyPost_ret (results_tmp2 rfl _ _ _) rfl ?_
   exact ⟨HK.out.trans HQ.out (fun _ _ h => h), .inl ⟨b, j, HR.out.1, rfl, HR.out.2⟩⟩
  ·have HR := zh (And.intro hr hp)
   clear hr hp
   go_wp2_with fail
   refine bodyPost_ret (results_tmp2 rfl _ _ _) rfl ?_
   exact ⟨HK.out.trans HQ.out (fun _ _ h => h), .inr ⟨HR.out.1, rfl, j, hj, HR.out.2⟩⟩
 ·rw [if_neg h1]
  have h1i : ((x : Nat) : Int) ≠ 120 := by omega
  by_cases h2 : x = 110
  ·subst h2
   rw [if_pos rfl]
   have hlt := HC.out 110 rfl (by omega)
   clear h1i
   go_enter Tryz.func155, Tryz.ntmps155
   go_wp2_with fail
   refine HN.out.mono ?_
   rintro e w1 ⟨rfl, h1, h2⟩
   have c1 : w1.cell? ⟨P, 1, none⟩ = some (.int .i64 i) := by unfold PsB at h1; rw [Lib.cell_of_heap h1]; rfl
   have f1 : w1.frozen? ⟨P, 1, none⟩ = false := Lib.frozen_of_heap h1 1
   have HF := zh (And.intro h1 h2)
   clear h1 h2
   go_wp2_with fail
   refine bodyPost_ret (results_tmp2 rfl _ _ _) rfl ?_
   exact ⟨(Kb.of_below _ HF.out.2).trans (Kb.setCell w1 ⟨P, 1, none⟩ _) (fun _ _ h => h), .inl ⟨10, i + 1, rfl, rfl, by rw [HM3.out]; exact HF.out.1.step (i + 1)⟩⟩
  ·rw [if_neg h2]
   have h2i : ((x : Nat) : Int) ≠ 110 := by omega
   by_cases h3 : x = 116
   ·subst h3
    rw [if_pos rfl]
    have hlt := HC.out 116 rfl (by omega)
    clear h1i h2i
    go_enter Tryz.func155, Tryz.ntmps155
    go_wp2_with fail
    refine HN.out.mono ?_
    rintro e w1 ⟨rfl, h1, h2⟩
    have c1 : w1.cell? ⟨P, 1, none⟩ = some (.int .i64 i) := by unfold PsB at h1; rw [Lib.cell_of_heap h1]; rfl
    have f1 : w1.frozen? ⟨P, 1, none⟩ = false := Lib.frozen_of_heap h1 1
    have HF := zh (And.intro h1 h2)
    clear h1 h2
    go_wp2_with fail
    refine bodyPost_ret (results_tmp2 rfl _ _ _) rfl ?_
    exact ⟨(Kb.of_below _ HF.out.2).trans (Kb.setCell w1 ⟨P, 1, none⟩ _) (fun _ _ h => h), .inl ⟨9, i + 1, rfl, rfl, by rw [HM3.out]; exact HF.out.1.step (i + 1)⟩⟩
   ·rw [if_neg h3]
    have h3i : ((x : Nat) : Int) ≠ 116 := by omega
    by_cases h4 : x = 115
    ·subst h4
     rw [if_pos rfl]
     have hlt := HC.out 115 rfl (by omega)
     clear h1i h2i h3i
     go_enter Tryz.func155, Tryz.ntmps155
     go_wp2_with fail
     refine HN.out.mono ?_
     rintro e w1 ⟨rfl, h1, h2⟩
     have c1 : w1.cell? ⟨P, 1, none⟩ = some (.int .i64 i) := by unfold PsB at h1; rw [Lib.cell_of_heap h1]; rfl
     have f1 : w1.frozen? ⟨P, 1, none⟩ = false := Lib.frozen_of_heap h1 1
     have HF := zh (And.intro h1 h2)
     clear h1 h2
     go_wp2_with fail
     refine bodyPost_ret (results_tmp2 rfl _ _ _) rfl ?_
     exact ⟨(Kb.of_below _ HF.out.2).trans (Kb.setCell w1 ⟨P, 1, none⟩ _) (fun _ _ h => h), .inl ⟨32, i + 1, rfl, rfl, by rw [HM3.out]; exact HF.out.1.step (i + 1)⟩⟩
    ·rw [if_neg h4]
     have h4i : ((x : Nat) : Int) ≠ 115 := by omega
     obtain ⟨dg, hdg⟩ : ∃ dg, dg = Lib.indexByte sp.data.toList x.toUInt8 := ⟨_, rfl⟩
     have hin : inS sp x = decide (0 ≤ dg) := by unfold inS; rw [hdg]
     have HIB2 := zh (show ∀ w', Calls Tryz.prog 110 #[.string sp, .int .u8 x] w' fun e w'_1 => e = .returned (.int .i64 dg) ∧ w'_1 = w' by rw [hdg]; exact HIB.out)
     rw [hin]
     have HIN := zh hin
     clear h1 h2 h3 h4 hdg HIB hin
     by_cases h5 : 0 ≤ dg
     ·rw [if_pos (decide_eq_true h5)]
      have hlt := HI.out (by rw [HIN.out]; exact decide_eq_true h5)
      go_enter Tryz.func155, Tryz.ntmps155
      go_wp2_with fail
      refine HN.out.mono ?_
      rintro e w1 ⟨rfl, h1, h2⟩
      have c1 : w1.cell? ⟨P, 1, none⟩ = some (.int .i64 i) := by unfold PsB at h1; rw [Lib.cell_of_heap h1]; rfl
      have f1 : w1.frozen? ⟨P, 1, none⟩ = false := Lib.frozen_of_heap h1 1
      have HF := zh (And.intro h1 h2)
      clear h1 h2
      go_wp2_with fail
      refine (HIB2.out w1).mono ?_
      rintro e w2 ⟨rfl, rfl⟩
      go_wp2_with fail
      refine bodyPost_ret (results_tmp2 rfl _ _ _) rfl ?_
      exact ⟨(Kb.of_below _ HF.out.2).trans (Kb.setCell w2 ⟨P, 1, none⟩ _) (fun _ _ h => h), .inl ⟨x, i + 1, rfl, rfl, by rw [HM3.out]; exact HF.out.1.step (i + 1)⟩⟩
     ·rw [if_neg (by rw [decide_eq_false h5]; simp)]
      go_enter Tryz.func155, Tryz.ntmps155
      go_wp2_with fail
      refine HN.out.mono ?_
      rintro e w1 ⟨rfl, h1, h2⟩
      have HF := zh (And.intro h1 h2)
      clear h1 h2
      go_wp2_with fail
      refine (HIB2.out w1).mono ?_
      rintro e w2 ⟨rfl, rfl⟩
      go_wp2_with fail
      refine bodyPost_ret (results_tmp2 rfl _ _ _) rfl ?_
      exact ⟨Kb.of_below _ HF.out.2, .inr ⟨rfl, rfl, i, hi, HF.out.1⟩⟩
end Go.Proofs.YtejdfpieblkapaaGreatDoor

/- Carried from another seat. -/
namespace Go.Proofs.YtejdfpieblkapaaGreatDoor
open Lib renaming hid → zh
open Go.RowKit Go.Shelf


set_option maxRecDepth 100000 in
set_option maxHeartbeats 2000000 in
theorem letter_any (w : World) (P : Nat) (sp s : ByteArray) (i : Nat) (ov : Value) (d : Int) (l : Bool) (h : PsB w P s i ov d l) (hi : i ≤ s.size) (hs : s.size ≤ 1000000) (hsp : inS sp 0 = false) :
  Calls Tryz.prog 136 #[ptr P, .string sp] w (RdTo P s ov d l (letF sp s.data.toList i) w) := by
 by_cases h92 : nx s.data.toList i = 92
 ·have HT := zh (take_yes w P 92 s i ov d l h hi hs h92 (by omega))
  have hlt := nx_in h92 (by omega)
  have hlet : letF sp s.data.toList i = escF sp s.data.toList (i + 1) := by unfold letF; rw [if_pos h92]
  rw [hlet]
  clear h h92 hlet
  go_enter Tryz.func136, Tryz.ntmps136
  go_wp2_with fail
  refine HT.out.mono ?_
  rintro e w1 ⟨rfl, h1, h2⟩
  have HE := zh (escaped_any w1 P sp s (i + 1) ov d l h1 (by omega) hs hsp)
  have HK := zh h2
  clear h1 h2
  go_wp2_with fail
  refine HE.out.mono ?_
  rintro e w2 ⟨q1, q2⟩
  have HQ := zh q1
  clear q1
  rcases q2 with ⟨b, j, hr, rfl, hp⟩ | ⟨hr, rfl, j, hj, hp⟩
  ·have HR := zh (And.intro hr hp)
   clear hr hp
   go_wp2_with fail
   refine bodyPost_ret (results_tmp2 rfl _ _ _) rfl ?_
   exact ⟨HK.out.trans HQ.out (fun _ _ h => h), .inl ⟨b, j, HR.out.1, rfl, HR.out.2⟩⟩
  ·have HR := zh (And.intro hr hp)
   clear hr hp
   go_wp2_with fail
   refine bodyPost_ret (results_tmp2 rfl _ _ _) rfl ?_
   exact ⟨HK.out.trans HQ.out (fun _ _ h => h), .inr ⟨HR.out.1, rfl, j, hj, HR.out.2⟩⟩
 ·have HT := zh (take_no w P 92 s i ov d l h hi hs h92)
  have hlet : letF sp s.data.toList i = if nx s.data.toList i ≤ 32 ∨ 126 < nx s.data.toList i ∨ inS sp (nx s.data.toList i) = true then none else some (nx s.data.toList i, i + 1) := by unfold letF; rw [if_neg h92]
  rw [hlet]
  have HC := zh (fun (h : 0 < nx s.data.toList i) => nx_in (s := s) (i := i) rfl h)
  have HNX := zh (fun w1 (h1 : PsB w1 P s i ov d l) => next_any w1 P s i ov d l h1 hi hs)
  generalize nx s.data.toList i = x at HC HNX
  clear h h92 hlet
  obtain ⟨dg, hdg⟩ : ∃ dg, dg = Lib.indexByte sp.data.toList x.toUInt8 := ⟨_, rfl⟩
  have hin : inS sp x = decide (0 ≤ dg) := by unfold inS; rw [hdg]
  have HIB2 := zh (show ∀ w', Calls Tryz.prog 110 #[.string sp, .int .u8 x] w' fun e w'_1 => e = .returned (.int .i64 dg) ∧ w'_1 = w' by rw [hdg]; exact fun w' => indexByte_any sp x w')
  rw [hin]
  clear hdg hin
  obtain ⟨m3, hm3⟩ : ∃ m3 : Int, m3 = ((i + 1 : Nat) : Int) := ⟨_, rfl⟩
  have e3 : IntKind.i64.wrap ((i : Int) + 1) = m3 := by rw [hm3, IntWalk.i64_in _ (by omega)]; omega
  have HM3 := zh hm3
  clear hm3
  by_cases h1 : x ≤ 32
  ·rw [if_pos (.inl h1)]
   have h1i : (x : Int) ≤ 32 := by omega
   go_enter Tryz.func136, Tryz.ntmps136
   go_wp2_with fail
   refine HT.out.mono ?_
   rintro e w1 ⟨rfl, h1, h2⟩
   have HN := zh (HNX.out w1 h1); have HB := zh h2
   clear h1 h2
   go_wp2_with fail
   refine HN.out.mono ?_
   rintro e w2 ⟨rfl, h1, h2⟩
   have HF := zh (And.intro h1 (below_tr HB.out h2 HB.out.size))
   clear h1 h2
   go_wp2_with fail
   refine bodyPost_ret (results_tmp2 rfl _ _ _) rfl ?_
   exact ⟨Kb.of_below _ HF.out.2, .inr ⟨rfl, rfl, i, hi, HF.out.1⟩⟩
  ·have h1i : ¬ (x : Int) ≤ 32 := by omega
   by_cases h2 : 126 < x
   ·rw [if_pos (.inr (.inl h2))]
    have h2i : (126 : Int) < x := by omega
    go_enter Tryz.func136, Tryz.ntmps136
    go_wp2_with fail
    refine HT.out.mono ?_
    rintro e w1 ⟨rfl, h1, h2⟩
    have HN := zh (HNX.out w1 h1); have HB := zh h2
    clear h1 h2
    go_wp2_with fail
    refine HN.out.mono ?_
    rintro e w2 ⟨rfl, h1, h2⟩
    have HF := zh (And.intro h1 (below_tr HB.out h2 HB.out.size))
    clear h1 h2
    go_wp2_with fail
    refine bodyPost_ret (results_tmp2 rfl _ _ _) rfl ?_
    exact ⟨Kb.of_below _ HF.out.2, .inr ⟨rfl, rfl, i, hi, HF.out.1⟩⟩
   ·have h2i : ¬ (126 : Int) < x := by omega
    by_cases h3 : 0 ≤ dg
    ·rw [if_pos (.inr (.inr (decide_eq_true h3)))]
     go_enter Tryz.func136, Tryz.ntmps136
     go_wp2_with fail
     refine HT.out.mono ?_
     rintro e w1 ⟨rfl, h1, h2⟩
     have HN := zh (HNX.out w1 h1); have HB := zh h2
     clear h1 h2
     go_wp2_with fail
     refine HN.out.mono ?_
     rintro e w2 ⟨rfl, h1, h2⟩
     have HF := zh (And.intro h1 (below_tr HB.out h2 HB.out.size))
     clear h1 h2
     go_wp2_with fail
     refine (HIB2.out w2).mono ?_
     rintro e w3 ⟨rfl, rfl⟩
     go_wp2_with fail
     refine bodyPost_ret (results_tmp2 rfl _ _ _) rfl ?_
     exact ⟨Kb.of_below _ HF.out.2, .inr ⟨rfl, rfl, i, hi, HF.out.1⟩⟩
    ·rw [if_neg (show ¬ (x ≤ 32 ∨ 126 < x ∨ decide (0 ≤ dg) = true) from fun h => h.elim h1 (fun h => h.elim h2 (fun h => h3 (of_decide_eq_true h))))]
     have hlt := HC.out (by omega)
     go_enter Tryz.func136, Tryz.ntmps136
     go_wp2_with fail
     refine HT.out.mono ?_
     rintro e w1 ⟨rfl, h1, h2⟩
     have HN := zh (HNX.out w1 h1); have HB := zh h2
     clear h1 h2
     go_wp2_with fail
     refine HN.out.mono ?_
     rintro e w2 ⟨rfl, h1, h2⟩
     have c1 : w2.cell? ⟨P, 1, none⟩ = some (.int .i64 i) := by unfold PsB at h1; rw [Lib.cell_of_heap h1]; rfl
     have f1 : w2.frozen? ⟨P, 1, none⟩ = false := Lib.frozen_of_heap h1 1
     have HF := zh (And.intro h1 (below_tr HB.out h2 HB.out.size))
     clear h1 h2
     go_wp2_with fail
     refine (HIB2.out w2).mono ?_
     rintro e w3 ⟨rfl, rfl⟩
     go_wp2_with fail
     refine bodyPost_ret (results_tmp2 rfl _ _ _) rfl ?_
     exact ⟨(Kb.of_below _ HF.out.2).trans (Kb.setCell w3 ⟨P, 1, none⟩ _) (fun _ _ h => h), .inl ⟨x, i + 1, rfl, rfl, by rw [HM3.out]; exact HF.out.1.step (i + 1)⟩⟩
end Go.Proofs.YtejdfpieblkapaaGreatDoor
