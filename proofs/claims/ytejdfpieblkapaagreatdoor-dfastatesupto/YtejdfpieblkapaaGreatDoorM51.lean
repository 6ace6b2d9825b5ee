/- Carried from another seat. -/
import Derived.Test.YtejdfpieblkapaaGreatDoorM30
namespace Go.Proofs.YtejdfpieblkapaaGreatDoor
open Lib renaming hid → zh
open Go.RowKit Go.Shelf

def TxB (w : World) (X : Nat) (s : ByteArray) (i : Nat) (d : Int) (bad great : Bool) : Prop := w.heap[X]? = some (.cells #[.string s, .int .i64 i, .int .i64 d, .bool bad, .bool great] 131 (0, 0))
theorem tx_cells {w : World} {X : Nat} {s : ByteArray} {i : Nat} {d : Int} {bad great : Bool} (h : TxB w X s i d bad great) : w.cell? ⟨X, 0, none⟩ = some (.string s) ∧ w.cell? ⟨X, 1, none⟩ = some (.int .i64 i) ∧ w.cell? ⟨X, 2, none⟩ = some (.int .i64 d) ∧ w.cell? ⟨X, 3, none⟩ = some (.bool bad) ∧ w.cell? ⟨X, 4, none⟩ = some (.bool great) ∧ ∀ c, w.frozen? ⟨X, c, none⟩ = false := by
 unfold TxB at h
 exact ⟨by rw [Lib.cell_of_heap h]; rfl, by rw [Lib.cell_of_heap h]; rfl, by rw [Lib.cell_of_heap h]; rfl, by rw [Lib.cell_of_heap h]; rfl, by rw [Lib.cell_of_heap h]; rfl, fun c => Lib.frozen_of_heap h c⟩
theorem TxB.below {w w' : World} {X : Nat} {s : ByteArray} {i : Nat} {d : Int} {bad great : Bool} (h : TxB w X s i d bad great) (hb : Below w.heap.size w w') : TxB w' X s i d bad great := (hb.block X (lt_of_heap h)).trans h
theorem TxB.at' {w : World} {X : Nat} {s : ByteArray} {i : Nat} {d : Int} {bad great : Bool} (h : TxB w X s i d bad great) (j : Nat) : TxB (w.setCell ⟨X, 1, none⟩ (.int .i64 j)) X s j d bad great := by
 unfold TxB at *
 rw [set_heap w X 1 _ _ _ _ h]; rfl
theorem TxB.bad' {w : World} {X : Nat} {s : ByteArray} {i : Nat} {d : Int} {bad great : Bool} (h : TxB w X s i d bad great) (b : Bool) : TxB (w.setCell ⟨X, 3, none⟩ (.bool b)) X s i d b great := by
 unfold TxB at *
 rw [set_heap w X 3 _ _ _ _ h]; rfl

theorem indexByte_mem (l : List UInt8) (c : UInt8) : 0 ≤ Lib.indexByte l c ↔ c ∈ l := by
 induction l with
 | nil => simp [Lib.indexByte]
 | cons b l ih =>
  have hr := (indexByte_range l c).1
  simp only [Lib.indexByte]
  by_cases h : b = c
  ·subst h; simp
  ·have h1 : (b == c) = false := by simpa using h
   rw [h1]
   by_cases h2 : Lib.indexByte l c = -1
   ·rw [h2] at ih ⊢
    have : c ∉ l := fun hm => by have := ih.2 hm; omega
    simp [this, Ne.symm h]
   ·have h3 : (Lib.indexByte l c == -1) = false := by simpa using h2
    rw [h3]
    have : c ∈ l := ih.1 (by omega)
    simp [this]; omega
theorem inS_mem (sp : ByteArray) (c : Nat) : inS sp c = decide (c.toUInt8 ∈ sp.data.toList) := by
 unfold inS
 rw [Bool.eq_iff_iff, decide_eq_true_iff, decide_eq_true_iff, indexByte_mem]
set_option maxRecDepth 100000 in
set_option maxHeartbeats 1000000 in
theorem in_any (sp : ByteArray) (c : Nat) (w : World) (hc : c < 256) (hs : sp.size ≤ 1000) : Calls Tryz.prog 145 #[.string sp, .int .u8 c] w fun e w' => e = .returned (.bool (inS sp c)) ∧ w' = w := by
 have hlen : sp.data.toList.length = sp.size := by rw [← Lib.size_eq]
 rw [inS_mem]
 obtain ⟨L, hL⟩ : ∃ L, L = sp.data.toList := ⟨_, rfl⟩
 rw [← hL] at hlen ⊢
 have HL := zh hL; have HLen := zh hlen
 have hgen : ∀ k, k < sp.size → ∃ x : UInt8, L[k]? = some x ∧ ∀ h : k < sp.size, (sp[k]'h) = x := fun k hk => by
  refine ⟨sp[k], ?_, fun _ => rfl⟩
  rw [hL, List.getElem?_eq_getElem (by rw [← Lib.size_eq]; exact hk)]
  simp; rfl
 have HG := zh hgen
 clear hL hlen hgen
 go_enter Tryz.func145, Tryz.ntmps145
 go_wp2_with fail
 go_loopw [5] (fun a wr => ∃ k : Nat, k ≤ sp.size ∧ a = .int .i64 k ∧ Hid (c.toUInt8 ∉ L.take k) ∧ wr = w) (fun a _ => sp.size - (intOf a).toNat)
 case atStart => exact ⟨0, Nat.zero_le _, rfl, (show c.toUInt8 ∉ L.take 0 by simp), rfl⟩
 case round =>
  obtain ⟨k, hk, rfl, HN, rfl⟩ := hrel
  by_cases hlt : k < sp.size
  ·obtain ⟨x, hx, hx2⟩ := HG.out k hlt
   have hki : (k : Int) < sp.size := by omega
   have hk0 : (0 : Int) ≤ k := by omega
   have hxe := hx2 hlt
   by_cases hxc : x.toNat = c
   ·have hmem : c.toUInt8 ∈ L := by
     have : x = c.toUInt8 := by rw [← hxc]; simp
     rw [← this]; exact List.mem_of_getElem? hx
    have HM := zh hmem
    have hb : ((x.toNat : Nat) : Int) = (c : Int) := by omega
    clear hx hx2 hmem
    go_wp2
    go_ret
    exact ⟨by rw [decide_eq_true HM.out]; rfl, rfl⟩
   ·have hb : ((x.toNat : Nat) : Int) ≠ (c : Int) := by omega
    have hnm : c.toUInt8 ∉ L.take (k + 1) := by
     rw [List.take_add_one, hx]
     intro hm
     rcases List.mem_append.1 hm with h | h
     ·exact HN.out h
     ·have h' : c.toUInt8 = x := by simpa using h
      apply hxc
      rw [← h', UInt8.toNat_ofNat']
      exact Nat.mod_eq_of_lt hc
    have HM := zh hnm
    clear hx hx2 hnm
    go_wp2
    go_roundw
    case rel => exact ⟨k + 1, by omega, by go_num, HM.out, by first | rfl | trivial⟩
    case measure => simp [intOf]; omega
  ·obtain rfl : k = sp.size := by omega
   have hnm : c.toUInt8 ∉ L := by
    have := HN.out
    rwa [List.take_of_length_le (by rw [HLen.out]; exact Nat.le_refl _)] at this
   have HM := zh hnm
   clear hnm
   go_wp2
   go_ret
   exact ⟨by rw [decide_eq_false HM.out]; rfl, rfl⟩

def hexI (c : Nat) : Int := if 48 ≤ c ∧ c ≤ 57 then (c : Int) - 48 else if 97 ≤ c ∧ c ≤ 102 then (c : Int) - 87 else -1
theorem hexI_all : ∀ c, c < 256 → Lib.indexByte HX.data.toList c.toUInt8 = hexI c := by
 have h : (List.range 256).all (fun c => decide (Lib.indexByte HX.data.toList c.toUInt8 = hexI c)) = true := by kernel_rfl
 intro c hc
 have := List.all_eq_true.1 h c (List.mem_range.2 hc)
 exact of_decide_eq_true this
set_option maxHeartbeats 1000000 in
theorem hexr_any (c : Nat) (w : World) (hc : c < 256) : Calls Tryz.prog 158 #[.int .u8 c] w fun e w' => e = .returned (.int .i64 (Lib.indexByte HX.data.toList c.toUInt8)) ∧ w' = w := by
 rw [hexI_all c hc]
 unfold hexI
 by_cases h1 : 48 ≤ c
 ·have h1i : (48 : Int) ≤ (c : Int) := by omega
  by_cases h2 : c ≤ 57
  ·have h2i : (c : Int) ≤ 57 := by omega
   rw [if_pos ⟨h1, h2⟩]
   have p1 : IntKind.u8.wrap ((c : Int) - 48) = (c : Int) - 48 := by rw [IntKind.wrap_u8]; omega
   have p2 : IntKind.i64.wrap ((c : Int) - 48) = (c : Int) - 48 := IntWalk.i64_in _ (by omega)
   go_enter Tryz.func158, Tryz.ntmps158
   go_wp2
   go_ret
   exact ⟨rfl, rfl⟩
  ·have h2i : ¬ (c : Int) ≤ 57 := by omega
   rw [if_neg (fun h => h2 h.2)]
   by_cases h3 : 97 ≤ c
   ·have h3i : (97 : Int) ≤ (c : Int) := by omega
    by_cases h4 : c ≤ 102
    ·have h4i : (c : Int) ≤ 102 := by omega
     rw [if_pos ⟨h3, h4⟩]
     have p1 : IntKind.u8.wrap ((c : Int) - 97) = (c : Int) - 97 := by rw [IntKind.wrap_u8]; omega
     have p2 : IntKind.i64.wrap ((c : Int) - 97) = (c : Int) - 97 := IntWalk.i64_in _ (by omega)
     have p3 : IntKind.i64.wrap ((c : Int) - 97 + 10) = (c : Int) - 87 := by rw [IntWalk.i64_in _ (by omega)]; omega
     go_enter Tryz.func158, Tryz.ntmps158
     go_wp2
     go_ret
     exact ⟨rfl, rfl⟩
    ·have h4i : ¬ (c : Int) ≤ 102 := by omega
     rw [if_neg (fun h => h4 h.2)]
     go_enter Tryz.func158, Tryz.ntmps158
     go_wp2
     go_ret
     exact ⟨rfl, rfl⟩
   ·have h3i : ¬ (97 : Int) ≤ (c : Int) := by omega
    rw [if_neg (fun h => h3 h.1)]
    go_enter Tryz.func158, Tryz.ntmps158
    go_wp2
    go_ret
    exact ⟨rfl, rfl⟩
 ·have h1i : ¬ (48 : Int) ≤ (c : Int) := by omega
  have h3i : ¬ (97 : Int) ≤ (c : Int) := by omega
  rw [if_neg (fun h => h1 h.1), if_neg (fun h => by omega)]
  go_enter Tryz.func158, Tryz.ntmps158
  go_wp2
  go_ret
  exact ⟨rfl, rfl⟩

set_option maxHeartbeats 1000000 in
theorem sees_any (w : World) (X : Nat) (s : ByteArray) (i c : Nat) (d : Int) (bad great : Bool) (h : TxB w X s i d bad great) (hi : i ≤ s.size) (_hs : s.size ≤ 1000000) (hc : 0 < c) :
  Calls Tryz.prog 117 #[ptr X, .int .u8 c] w fun e w' => e = .returned (.bool (decide (nx s.data.toList i = c))) ∧ TxB w' X s i d bad great ∧ Below w.heap.size w w' := by
 obtain ⟨c0, c1, _, _, _, _⟩ := tx_cells h
 have HH := zh h
 clear h
 by_cases hlt : i < s.size
 ·have hii : (i : Int) < s.size := by omega
  have hi0 : (0 : Int) ≤ i := by omega
  have hn : nx s.data.toList i = s[i].toNat := by
   unfold nx
   rw [List.getElem?_eq_getElem (by rw [← Lib.size_eq]; exact hlt)]
   simp
   rfl
  have HN := zh hn
  clear hn
  go_enter Tryz.func117, Tryz.ntmps117
  go_wp2_with fail
  go_quiet (fail)
  go_wp2
  go_ret
  refine ⟨?_, HH.out, below_drewN _ _ _⟩
  rw [HN.out]
  show Ending.returned (Value.bool (((s[i].toNat : Nat) : Int) == (c : Int))) = _
  congr 2
  rw [Bool.eq_iff_iff]; simp; omega
 ·obtain rfl : i = s.size := by omega
  have hn : nx s.data.toList s.size = 0 := by
   unfold nx
   rw [List.getElem?_eq_none (by rw [← Lib.size_eq]; exact Nat.le_refl _)]
   rfl
  have hii : decide ((s.size : Int) < s.size) = false := by simp
  have HN := zh hn
  clear hn
  go_enter Tryz.func117, Tryz.ntmps117
  go_wp2_with fail
  go_quiet (fail)
  go_wp2
  go_ret
  refine ⟨?_, HH.out, below_drewN _ _ _⟩
  rw [HN.out, decide_eq_false (by omega)]
  rfl
end Go.Proofs.YtejdfpieblkapaaGreatDoor

/- Carried from another seat. -/
namespace Go.Proofs.YtejdfpieblkapaaGreatDoor
open Lib renaming hid → zh
open Go.RowKit Go.Shelf

def LtTo (X : Nat) (s : ByteArray) (d : Int) (great : Bool) (r : Option (Nat × Nat)) (w : World) (e : Ending) (w' : World) : Prop :=
 Kb (fun j => j = X) w w' ∧ ((∃ c j, r = some (c, j) ∧ e = .returned (.int .i64 c) ∧ TxB w' X s j d false great) ∨ (r = none ∧ e = .returned (.int .i64 0) ∧ ∃ j, j ≤ s.size ∧ TxB w' X s j d true great))
theorem nx_get {s : ByteArray} {i : Nat} (h : i < s.size) : nx s.data.toList i = s[i].toNat := by
 unfold nx
 rw [List.getElem?_eq_getElem (by rw [← Lib.size_eq]; exact h)]
 simp
 rfl
theorem nx_end (s : ByteArray) : nx s.data.toList s.size = 0 := by
 unfold nx
 rw [List.getElem?_eq_none (by rw [← Lib.size_eq]; exact Nat.le_refl _)]
 rfl
theorem letF_end {sp : ByteArray} {L : List UInt8} {i : Nat} (h : nx L i = 0) : letF sp L i = none := by
 unfold letF; rw [h]; simp
theorem escF_end {sp : ByteArray} {L : List UInt8} {i : Nat} (h : nx L i = 0) (h0 : inS sp 0 = false) : escF sp L i = none := by
 unfold escF; rw [h, h0]; simp
theorem lt_bad {X : Nat} {s : ByteArray} {i : Nat} {d : Int} {bad great : Bool} {w w1 : World} (h : TxB w1 X s i d bad great) (hk : Kb (fun j => j = X) w w1) (hi : i ≤ s.size) : LtTo X s d great none w (.returned (.int .i64 0)) (w1.setCell ⟨X, 3, none⟩ (.bool true)) :=
 ⟨hk.trans (Kb.setCell w1 ⟨X, 3, none⟩ _) (fun _ _ h => h), .inr ⟨rfl, rfl, i, hi, h.bad' true⟩⟩
theorem lt_ok {X : Nat} {s : ByteArray} {i c : Nat} {d : Int} {great : Bool} {w w1 : World} (j : Nat) (h : TxB w1 X s i d false great) (hk : Kb (fun j => j = X) w w1) : LtTo X s d great (some (c, j)) w (.returned (.int .i64 c)) (w1.setCell ⟨X, 1, none⟩ (.int .i64 j)) :=
 ⟨hk.trans (Kb.setCell w1 ⟨X, 1, none⟩ _) (fun _ _ h => h), .inl ⟨c, j, rfl, rfl, h.at' j⟩⟩

set_option maxRecDepth 100000 in
set_option maxHeartbeats 4000000 in
theorem letter_plain (w : World) (X : Nat) (sp s : ByteArray) (i : Nat) (d : Int) (great : Bool) (h : TxB w X s i d false great) (hi : i ≤ s.size) (hs : s.size ≤ 1000000) (hsp : sp.size ≤ 1000) (h92 : nx s.data.toList i ≠ 92) :
  Calls Tryz.prog 144 #[ptr X, .string sp] w (LtTo X s d great (letF sp s.data.toList i) w) := by
 obtain ⟨c0, c1, _, c3, _, cf⟩ := tx_cells h
 have f1 := cf 1; have f3 := cf 3
 have HH := zh h
 clear cf h
 rcases Nat.lt_or_ge i s.size with hlt | hge
 ·have hii : (i : Int) < s.size := by omega
  have hig : ¬ (s.size : Int) ≤ i := by omega
  have hi0 : (0 : Int) ≤ i := by omega
  have hn := nx_get hlt
  have hxl := s[i].toNat_lt
  have HK := zh (fun nq => Kb.of_below (fun j => j = X) (below_drewN w.heap.size w nq))
  obtain ⟨m, hm⟩ : ∃ m : Int, m = ((i + 1 : Nat) : Int) := ⟨_, rfl⟩
  have p1 : IntKind.i64.wrap ((i : Int) + 1) = m := by rw [hm, IntWalk.i64_in _ (by omega)]; omega
  have HM := zh hm
  rw [hn] at h92
  have h92i : ((s[i].toNat : Nat) : Int) ≠ 92 := by omega
  have hlet : letF sp s.data.toList i = if s[i].toNat ≤ 32 ∨ 126 < s[i].toNat ∨ inS sp s[i].toNat = true then none else some (s[i].toNat, i + 1) := by
   unfold letF; rw [hn, if_neg h92]
  rw [hlet]
  have HIN := zh (fun w' => in_any sp s[i].toNat w' (by omega) hsp)
  have pc : IntKind.i64.wrap ((s[i].toNat : Nat) : Int) = ((s[i].toNat : Nat) : Int) := IntWalk.i64_in _ (by omega)
  clear hn hlet hm
  by_cases h1 : s[i].toNat ≤ 32
  ·have h1i : ((s[i].toNat : Nat) : Int) ≤ 32 := by omega
   rw [if_pos (.inl h1)]
   go_enter Tryz.func144, Tryz.ntmps144
   go_wp2_with fail
   go_quiet (fail)
   go_wp2_with fail
   go_quiet (fail)
   go_wp2
   go_ret
   exact lt_bad (i := i) (HH.out.below (below_drewN _ w _)) (Kb.of_below _ (below_drewN _ w _)) hi
  ·have h1i : ¬ ((s[i].toNat : Nat) : Int) ≤ 32 := by omega
   by_cases h2 : 126 < s[i].toNat
   ·have h2i : (127 : Int) ≤ ((s[i].toNat : Nat) : Int) := by omega
    rw [if_pos (.inr (.inl h2))]
    go_enter Tryz.func144, Tryz.ntmps144
    go_wp2_with fail
    go_quiet (fail)
    go_wp2_with fail
    go_quiet (fail)
    go_wp2
    go_ret
    exact lt_bad (i := i) (HH.out.below (below_drewN _ w _)) (Kb.of_below _ (below_drewN _ w _)) hi
   ·have h2i : ¬ (127 : Int) ≤ ((s[i].toNat : Nat) : Int) := by omega
    cases hin : inS sp s[i].toNat with
    | true =>
     rw [hin] at HIN
     rw [if_pos (.inr (.inr rfl))]
     go_enter Tryz.func144, Tryz.ntmps144
     go_wp2_with fail
     go_quiet (fail)
     go_wp2_with fail
     go_quiet (fail)
     go_wp2_with fail
     refine (HIN.out _).mono ?_
     rintro e w2 ⟨rfl, rfl⟩
     go_wp2
     go_ret
     exact lt_bad (i := i) (HH.out.below (below_drewN _ w _)) (Kb.of_below _ (below_drewN _ w _)) hi
    | false =>
     rw [hin] at HIN
     rw [if_neg (fun h => by rcases h with h | h | h; exact h1 h; exact h2 h; cases h)]
     go_enter Tryz.func144, Tryz.ntmps144
     go_wp2_with fail
     go_quiet (fail)
     go_wp2_with fail
     go_quiet (fail)
     go_wp2_with fail
     refine (HIN.out _).mono ?_
     rintro e w2 ⟨rfl, rfl⟩
     go_wp2
     go_ret
     rw [HM.out]
     exact lt_ok (i + 1) (HH.out.below (below_drewN _ w _)) (Kb.of_below _ (below_drewN _ w _))
 ·obtain rfl : i = s.size := by omega
  have hii : (s.size : Int) ≤ s.size := by omega
  rw [letF_end (nx_end s)]
  clear h92
  go_enter Tryz.func144, Tryz.ntmps144
  go_wp2_with fail
  go_quiet (fail)
  go_wp2
  go_ret
  exact lt_bad (i := s.size) (HH.out.below (below_drewN _ w _)) (Kb.of_below _ (below_drewN _ w _)) hi

set_option maxRecDepth 100000 in
set_option maxHeartbeats 4000000 in
theorem letter_esc (w : World) (X : Nat) (sp s : ByteArray) (i : Nat) (d : Int) (great : Bool) (h : TxB w X s i d false great) (hs : s.size ≤ 1000000) (hsp : sp.size ≤ 1000) (h0 : inS sp 0 = false) (h92 : nx s.data.toList i = 92) (h120 : nx s.data.toList (i + 1) ≠ 120) :
  Calls Tryz.prog 144 #[ptr X, .string sp] w (LtTo X s d great (letF sp s.data.toList i) w) := by
 have hlt := nx_in h92 (by omega)
 obtain ⟨c0, c1, _, c3, _, cf⟩ := tx_cells h
 have f1 := cf 1; have f3 := cf 3
 have hii : (i : Int) < s.size := by omega
 have hig : ¬ (s.size : Int) ≤ i := by omega
 have hi0 : (0 : Int) ≤ i := by omega
 have hn := nx_get hlt
 obtain ⟨j, hj⟩ : ∃ j, j = i + 1 := ⟨_, rfl⟩
 have p1 : IntKind.i64.wrap ((i : Int) + 1) = (j : Int) := by rw [hj, IntWalk.i64_in _ (by omega)]; omega
 have h92n : s[i].toNat = 92 := by rw [← hn]; exact h92
 have hlet : letF sp s.data.toList i = escF sp s.data.toList j := by unfold letF; rw [h92, if_pos rfl, hj]
 rw [hlet]
 rw [← hj] at h120
 have hjs : j ≤ s.size := by omega
 have HT0 := zh h; have HK0 := zh (Kb.refl (fun k => k = X) w)
 have hc92 : ((s[i].toNat : Nat) : Int) = 92 := by omega
 clear hn hlet h92 h cf hj
 go_enter Tryz.func144, Tryz.ntmps144
 go_wp2_with fail
 go_quiet (fail)
 have HT1 := zh (HT0.out.below (below_drewN _ w nq))
 have HK1 := zh (HK0.out.trans (Kb.of_below (fun k => k = X) (below_drewN _ w nq)) (fun _ _ h => h))
 generalize w.drewN nq = w1 at HT1 HK1 ⊢
 clear c0 c1 c3 f1 f3
 obtain ⟨c0, c1, _, c3, _, cf⟩ := tx_cells HT1.out
 have f1 := cf 1; have f3 := cf 3
 clear cf
 go_wp2_with fail
 go_quiet (fail)
 have HT2 := zh (HT1.out.below (below_drewN _ w1 nq))
 have HK2 := zh (HK1.out.trans (Kb.of_below (fun k => k = X) (below_drewN _ w1 nq)) (fun _ _ h => h))
 generalize w1.drewN nq = w2 at HT2 HK2 ⊢
 clear c0 c1 c3 f1 f3
 obtain ⟨c0, c1, _, c3, _, cf⟩ := tx_cells HT2.out
 have f1 := cf 1; have f3 := cf 3
 clear cf
 have HTj := zh (HT2.out.at' j)
 have HKj := zh (HK2.out.trans (Kb.setCell w2 ⟨X, 1, none⟩ (.int .i64 j)) (fun _ _ h => h))
 go_wp2_with fail
 generalize w2.setCell ⟨X, 1, none⟩ (.int .i64 j) = w3 at HTj HKj ⊢
 clear c0 c1 c3 f1 f3 hii hig hi0 p1 h92n hc92
 obtain ⟨c0, c1, _, c3, _, cf⟩ := tx_cells HTj.out
 have f1 := cf 1; have f3 := cf 3
 clear cf
 rcases Nat.lt_or_ge j s.size with hjl | hjg
 ·have hji : (j : Int) < s.size := by omega
  have hjn : ¬ (s.size : Int) ≤ j := by omega
  have hj0 : (0 : Int) ≤ j := by omega
  have hn := nx_get hjl
  have hxl := s[j].toNat_lt
  obtain ⟨m, hm⟩ : ∃ m, m = j + 1 := ⟨_, rfl⟩
  have p1 : IntKind.i64.wrap ((j : Int) + 1) = (m : Int) := by rw [hm, IntWalk.i64_in _ (by omega)]; omega
  have pc : IntKind.i64.wrap ((s[j].toNat : Nat) : Int) = ((s[j].toNat : Nat) : Int) := IntWalk.i64_in _ (by omega)
  have HM := zh hm
  rw [hn] at h120
  have h120i : ((s[j].toNat : Nat) : Int) ≠ 120 := by omega
  have hesc : escF sp s.data.toList j = if s[j].toNat = 110 then some (10, m) else if s[j].toNat = 116 then some (9, m) else if s[j].toNat = 115 then some (32, m) else if inS sp s[j].toNat = true then some (s[j].toNat, m) else none := by
   unfold escF; rw [hn, if_neg h120, hm]
  have HES := zh hesc
  have HIN := zh (fun w' => in_any sp s[j].toNat w' (by omega) hsp)
  clear hn hesc hm
  go_wp2_with fail
  go_quiet (fail)
  have HT4 := zh (HTj.out.below (below_drewN _ w3 nq))
  have HK4 := zh (HKj.out.trans (Kb.of_below (fun k => k = X) (below_drewN _ w3 nq)) (fun _ _ h => h))
  generalize w3.drewN nq = w4 at HT4 HK4 ⊢
  clear c0 c1 c3 f1 f3
  obtain ⟨c0, c1, _, c3, _, cf⟩ := tx_cells HT4.out
  have f1 := cf 1; have f3 := cf 3
  clear cf
  go_wp2_with fail
  go_quiet (fail)
  have HT5 := zh (HT4.out.below (below_drewN _ w4 nq))
  have HK5 := zh (HK4.out.trans (Kb.of_below (fun k => k = X) (below_drewN _ w4 nq)) (fun _ _ h => h))
  generalize w4.drewN nq = w5 at HT5 HK5 ⊢
  clear c0 c1 c3 f1 f3
  obtain ⟨c0, c1, _, c3, _, cf⟩ := tx_cells HT5.out
  have f1 := cf 1; have f3 := cf 3
  clear cf
  have hgo : ∀ c : Nat, LtTo X s d great (some (c, m)) w (.returned (.int .i64 c)) (w5.setCell ⟨X, 1, none⟩ (.int .i64 m)) := fun c => lt_ok m HT5.out HK5.out
  have HGO := zh hgo
  clear hgo
  by_cases q1 : s[j].toNat = 110
  ·have q1i : ((s[j].toNat : Nat) : Int) = 110 := by omega
   have HE := zh (HES.out.trans (if_pos q1))
   go_wp2
   go_ret
   rw [HE.out]
   exact HGO.out 10
  ·have q1i : ((s[j].toNat : Nat) : Int) ≠ 110 := by omega
   by_cases q2 : s[j].toNat = 116
   ·have q2i : ((s[j].toNat : Nat) : Int) = 116 := by omega
    have HE := zh (HES.out.trans ((if_neg q1).trans (if_pos q2)))
    go_wp2
    go_ret
    rw [HE.out]
    exact HGO.out 9
   ·have q2i : ((s[j].toNat : Nat) : Int) ≠ 116 := by omega
    by_cases q3 : s[j].toNat = 115
    ·have q3i : ((s[j].toNat : Nat) : Int) = 115 := by omega
     have HE := zh (HES.out.trans ((if_neg q1).trans ((if_neg q2).trans (if_pos q3))))
     go_wp2
     go_ret
     rw [HE.out]
     exact HGO.out 32
    ·have q3i : ((s[j].toNat : Nat) : Int) ≠ 115 := by omega
     cases hin : inS sp s[j].toNat with
     | true =>
      rw [hin] at HIN
      have HE := zh (HES.out.trans ((if_neg q1).trans ((if_neg q2).trans ((if_neg q3).trans (if_pos hin)))))
      go_wp2_with fail
      refine (HIN.out _).mono ?_
      rintro e w6 ⟨rfl, rfl⟩
      go_wp2
      go_ret
      rw [HE.out]
      exact HGO.out _
     | false =>
      rw [hin] at HIN
      have HE := zh (HES.out.trans ((if_neg q1).trans ((if_neg q2).trans ((if_neg q3).trans (if_neg (by rw [hin]; simp))))))
      go_wp2_with fail
      refine (HIN.out _).mono ?_
      rintro e w6 ⟨rfl, rfl⟩
      go_wp2
      go_ret
      rw [HE.out]
      exact lt_bad HT5.out HK5.out hjs
 ·obtain rfl : j = s.size := by omega
  have hji : (s.size : Int) ≤ s.size := by omega
  have HE := zh (escF_end (sp := sp) (nx_end s) h0)
  go_wp2_with fail
  go_quiet (fail)
  have HT4 := zh (HTj.out.below (below_drewN _ w3 nq))
  have HK4 := zh (HKj.out.trans (Kb.of_below (fun k => k = X) (below_drewN _ w3 nq)) (fun _ _ h => h))
  generalize w3.drewN nq = w4 at HT4 HK4 ⊢
  clear c0 c1 c3 f1 f3
  obtain ⟨c0, c1, _, c3, _, cf⟩ := tx_cells HT4.out
  have f1 := cf 1; have f3 := cf 3
  clear cf
  go_wp2
  go_ret
  rw [HE.out]
  exact lt_bad HT4.out HK4.out (Nat.le_refl _)
end Go.Proofs.YtejdfpieblkapaaGreatDoor

/- Carried from another seat. -/
namespace Go.Proofs.YtejdfpieblkapaaGreatDoor
open Lib renaming hid → zh
open Go.RowKit Go.Shelf

set_option maxRecDepth 100000 in
set_option maxHeartbeats 4000000 in
theorem letter_hex (w : World) (X : Nat) (sp s : ByteArray) (i : Nat) (d : Int) (great : Bool) (h : TxB w X s i d false great) (hs : s.size ≤ 1000000) (h92 : nx s.data.toList i = 92) (h120 : nx s.data.toList (i + 1) = 120) :
  Calls Tryz.prog 144 #[ptr X, .string sp] w (LtTo X s d great (letF sp s.data.toList i) w) := by
 have hlt := nx_in h92 (by omega)
 have hjl := nx_in h120 (by omega)
 obtain ⟨c0, c1, _, c3, _, cf⟩ := tx_cells h
 have f1 := cf 1; have f3 := cf 3
 have hii : (i : Int) < s.size := by omega
 have hig : ¬ (s.size : Int) ≤ i := by omega
 have hi0 : (0 : Int) ≤ i := by omega
 have hn := nx_get hlt
 have hn2 := nx_get hjl
 obtain ⟨j, hj⟩ : ∃ j, j = i + 1 := ⟨_, rfl⟩
 have p1 : IntKind.i64.wrap ((i : Int) + 1) = (j : Int) := by rw [hj, IntWalk.i64_in _ (by omega)]; omega
 have h92n : s[i].toNat = 92 := by rw [← hn]; exact h92
 have hlet : letF sp s.data.toList i = hexF s.data.toList (j + 1) := by unfold letF escF; rw [h92, if_pos rfl, h120, if_pos rfl, hj]
 rw [hlet]
 have hc92 : ((s[i].toNat : Nat) : Int) = 92 := by omega
 have hjl' : j < s.size := by omega
 have h120n : s[j].toNat = 120 := by rw [← nx_get hjl', hj]; exact h120
 have hjs : j ≤ s.size := by omega
 have hji : (j : Int) < s.size := by omega
 have hjn : ¬ (s.size : Int) ≤ j := by omega
 have hj0 : (0 : Int) ≤ j := by omega
 have hc120 : ((s[j].toNat : Nat) : Int) = 120 := by omega
 have hgd : decide (s.size ≤ i) = false := decide_eq_false (by omega)
 have hgj : decide (s.size ≤ j) = false := decide_eq_false (by omega)
 have HT0 := zh h; have HK0 := zh (Kb.refl (fun k => k = X) w)
 clear hn hn2 hlet h92 h120 h cf hj hjl
 go_enter Tryz.func144, Tryz.ntmps144
 go_wp2_with fail
 go_quiet (fail)
 have HT1 := zh (HT0.out.below (below_drewN _ w nq))
 have HK1 := zh (HK0.out.trans (Kb.of_below (fun k => k = X) (below_drewN _ w nq)) (fun _ _ h => h))
 generalize w.drewN nq = w1 at HT1 HK1 ⊢
 clear c0 c1 c3 f1 f3
 obtain ⟨c0, c1, _, c3, _, cf⟩ := tx_cells HT1.out
 have f1 := cf 1; have f3 := cf 3
 clear cf
 go_wp2_with fail
 go_quiet (fail)
 have HT2 := zh (HT1.out.below (below_drewN _ w1 nq))
 have HK2 := zh (HK1.out.trans (Kb.of_below (fun k => k = X) (below_drewN _ w1 nq)) (fun _ _ h => h))
 generalize w1.drewN nq = w2 at HT2 HK2 ⊢
 clear c0 c1 c3 f1 f3
 obtain ⟨c0, c1, _, c3, _, cf⟩ := tx_cells HT2.out
 have f1 := cf 1; have f3 := cf 3
 clear cf
 have HTj := zh (HT2.out.at' j)
 have HKj := zh (HK2.out.trans (Kb.setCell w2 ⟨X, 1, none⟩ (.int .i64 j)) (fun _ _ h => h))
 go_wp2_with fail
 generalize w2.setCell ⟨X, 1, none⟩ (.int .i64 j) = w3 at HTj HKj ⊢
 clear c0 c1 c3 f1 f3 hii hig hi0 p1 h92n hc92
 obtain ⟨c0, c1, _, c3, _, cf⟩ := tx_cells HTj.out
 have f1 := cf 1; have f3 := cf 3
 clear cf
 go_wp2_with fail
 go_quiet (fail)
 have HT4 := zh (HTj.out.below (below_drewN _ w3 nq))
 have HK4 := zh (HKj.out.trans (Kb.of_below (fun k => k = X) (below_drewN _ w3 nq)) (fun _ _ h => h))
 generalize w3.drewN nq = w4 at HT4 HK4 ⊢
 clear c0 c1 c3 f1 f3
 obtain ⟨c0, c1, _, c3, _, cf⟩ := tx_cells HT4.out
 have f1 := cf 1; have f3 := cf 3
 clear cf
 go_wp2_with fail
 go_quiet (fail)
 have HT5 := zh (HT4.out.below (below_drewN _ w4 nq))
 have HK5 := zh (HK4.out.trans (Kb.of_below (fun k => k = X) (below_drewN _ w4 nq)) (fun _ _ h => h))
 generalize w4.drewN nq = w5 at HT5 HK5 ⊢
 clear c0 c1 c3 f1 f3
 obtain ⟨c0, c1, _, c3, _, cf⟩ := tx_cells HT5.out
 have f1 := cf 1; have f3 := cf 3
 clear cf
 go_wp2_with fail
 go_loopw [6, 7] (fun vn vi wr => ∃ k N : Nat, k ≤ 2 ∧ vi = .int .i64 k ∧ vn = .int .i64 N ∧ N < 256 ∧ Hid (hexP s.data.toList (j + 1) k = some N) ∧ j + k < s.size ∧ Hid (TxB wr X s (j + k) d false great) ∧ Hid (Kb (fun k => k = X) w wr)) (fun _ vi _ => 2 - (intOf vi).toNat)
 case atStart => exact ⟨0, 0, by omega, rfl, rfl, by omega, rfl, hjl', HT5.out, HK5.out⟩
 case round =>
  obtain ⟨k, N, hk, rfl, rfl, hN, HP, hjk, HT, HK⟩ := hrel
  clear c0 c1 c3 f1 f3
  obtain ⟨c0, c1, _, c3, _, cf⟩ := tx_cells HT.out
  have f1 := cf 1; have f3 := cf 3
  clear cf
  obtain ⟨a0, ha0⟩ : ∃ a0, a0 = j + k := ⟨_, rfl⟩
  obtain ⟨a, ha⟩ : ∃ a, a = j + k + 1 := ⟨_, rfl⟩
  rw [← ha0] at c1 HT hjk
  have p1 : IntKind.i64.wrap ((a0 : Int) + 1) = (a : Int) := by rw [ha0, ha, IntWalk.i64_in _ (by omega)]; omega
  have has : a ≤ s.size := by omega
  have HA := zh ha; have HA0 := zh ha0
  have HTa := zh (HT.out.at' a)
  have HKa := zh (HK.out.trans (Kb.setCell wr ⟨X, 1, none⟩ (.int .i64 a)) (fun _ _ h => h))
  rcases (show k = 2 ∨ k < 2 by omega) with rfl | hk2
  ·have HF := zh (show LtTo X s d great (hexF s.data.toList (j + 1)) w (.returned (.int .i64 N)) (wr.setCell ⟨X, 1, none⟩ (.int .i64 a)) from by
    have e : hexF s.data.toList (j + 1) = some (N, a) := by unfold hexF; rw [HP.out, HA.out]; rfl
    rw [e]
    exact lt_ok a HT.out HK.out)
   clear ha ha0 HTa HKa
   go_wp2
   go_ret
   exact HF.out
  ·have hki : (k : Int) < 2 := by omega
   have hnone : hexP s.data.toList (j + 1) (k + 1) = none → hexF s.data.toList (j + 1) = none := fun h => by unfold hexF; rw [hexP_none h (by omega)]; rfl
   have hstep : hexP s.data.toList (j + 1) (k + 1) = if Lib.indexByte HX.data.toList (nx s.data.toList a).toUInt8 < 0 then none else some (N * 16 + (Lib.indexByte HX.data.toList (nx s.data.toList a).toUInt8).toNat) := by
    simp only [hexP]
    rw [HP.out, show j + 1 + k = a by omega]; rfl
   have HNO := zh hnone; have HST := zh hstep
   clear hnone hstep ha ha0
   go_wp2_with fail
   generalize wr.setCell ⟨X, 1, none⟩ (.int .i64 a) = w6 at HTa HKa ⊢
   clear c0 c1 c3 f1 f3
   obtain ⟨c0, c1, _, c3, _, cf⟩ := tx_cells HTa.out
   have f1 := cf 1; have f3 := cf 3
   clear cf
   rcases Nat.lt_or_ge a s.size with hal | hag
   ·have hai : (a : Int) < s.size := by omega
    have han : ¬ (s.size : Int) ≤ a := by omega
    have hand : decide (s.size ≤ a) = false := decide_eq_false (by omega)
    have ha0' : (0 : Int) ≤ a := by omega
    have hxl := s[a].toNat_lt
    have hst := HST.out
    rw [nx_get hal] at hst
    have HHX := zh (fun w' => hexr_any s[a].toNat w' (by omega))
    obtain ⟨hv, hhv⟩ : ∃ hv, hv = Lib.indexByte HX.data.toList s[a].toNat.toUInt8 := ⟨_, rfl⟩
    have hr := indexByte_range HX.data.toList s[a].toNat.toUInt8
    have hl16 : HX.data.toList.length = 16 := rfl
    rw [hl16] at hr
    rw [← hhv] at hst HHX hr
    have HS := zh hst
    clear hst hhv hl16
    by_cases hneg : hv < 0
    ·have HE := zh (HNO.out (HS.out.trans (if_pos hneg)))
     go_quiet (first | (go_at_call 158; refine Calls.quiet_of_same (HHX.out _)))
     have HT7 := zh (HTa.out.below (below_drewN _ w6 nq))
     have HK7 := zh (HKa.out.trans (Kb.of_below (fun k => k = X) (below_drewN _ w6 nq)) (fun _ _ h => h))
     generalize w6.drewN nq = w7 at HT7 HK7 ⊢
     clear c0 c1 c3 f1 f3
     obtain ⟨c0, c1, _, c3, _, cf⟩ := tx_cells HT7.out
     have f1 := cf 1; have f3 := cf 3
     clear cf
     go_wp2
     go_ret
     rw [HE.out]
     exact lt_bad HT7.out HK7.out has
    ·have hnn : ¬ hv < 0 := hneg
     obtain ⟨h1, rfl⟩ : ∃ h1 : Nat, hv = (h1 : Int) := ⟨hv.toNat, by omega⟩
     have hposs : (0 : Int) ≤ (h1 : Int) := by omega
     have hst2 : hexP s.data.toList (j + 1) (k + 1) = some (N * 16 + h1) := by rw [HS.out, if_neg hneg]; rfl
     have hlt256 : N * 16 + h1 < 16 ^ (k + 1) := hexP_lt _ _ _ _ hst2
     have hpw : 16 ^ (k + 1) ≤ 256 := by
      rcases (show k = 0 ∨ k = 1 by omega) with rfl | rfl <;> decide
     have p2 : IntKind.i64.wrap (16 * (N : Int)) = 16 * (N : Int) := IntWalk.i64_in _ (by omega)
     have p3 : IntKind.i64.wrap (16 * (N : Int) + (h1 : Int)) = ((N * 16 + h1 : Nat) : Int) := by rw [IntWalk.i64_in _ (by omega)]; omega
     have HS2 := zh hst2
     clear hst2
     go_quiet (first | (go_at_call 158; refine Calls.quiet_of_same (HHX.out _)))
     have HT7 := zh (HTa.out.below (below_drewN _ w6 nq))
     have HK7 := zh (HKa.out.trans (Kb.of_below (fun k => k = X) (below_drewN _ w6 nq)) (fun _ _ h => h))
     generalize w6.drewN nq = w7 at HT7 HK7 ⊢
     clear c0 c1 c3 f1 f3
     obtain ⟨c0, c1, _, c3, _, cf⟩ := tx_cells HT7.out
     have f1 := cf 1; have f3 := cf 3
     clear cf
     go_wp2_with fail
     go_quiet (first | (go_at_call 158; refine Calls.quiet_of_same (HHX.out _)))
     have HT8 := zh (HT7.out.below (below_drewN _ w7 nq))
     have HK8 := zh (HK7.out.trans (Kb.of_below (fun k => k = X) (below_drewN _ w7 nq)) (fun _ _ h => h))
     generalize w7.drewN nq = w8 at HT8 HK8 ⊢
     clear c0 c1 c3 f1 f3
     obtain ⟨c0, c1, _, c3, _, cf⟩ := tx_cells HT8.out
     have f1 := cf 1; have f3 := cf 3
     clear cf
     go_wp2
     go_roundw
     case rel => exact ⟨k + 1, N * 16 + h1, by omega, by go_num, by go_num, by omega, HS2.out, by have := HA.out; omega, by rw [show j + (k + 1) = a by have := HA.out; omega]; exact HT8.out, HK8.out⟩
     case measure => simp [intOf]; omega
   ·obtain rfl : a = s.size := by omega
    have hai : (s.size : Int) ≤ s.size := by omega
    have HE := zh (HNO.out (by rw [HST.out, nx_end]; exact if_pos (by decide)))
    go_quiet (fail)
    have HT7 := zh (HTa.out.below (below_drewN _ w6 nq))
    have HK7 := zh (HKa.out.trans (Kb.of_below (fun k => k = X) (below_drewN _ w6 nq)) (fun _ _ h => h))
    generalize w6.drewN nq = w7 at HT7 HK7 ⊢
    clear c0 c1 c3 f1 f3
    obtain ⟨c0, c1, _, c3, _, cf⟩ := tx_cells HT7.out
    have f1 := cf 1; have f3 := cf 3
    clear cf
    go_wp2
    go_ret
    rw [HE.out]
    exact lt_bad HT7.out HK7.out has
theorem letter_r (w : World) (X : Nat) (sp s : ByteArray) (i : Nat) (d : Int) (great : Bool) (h : TxB w X s i d false great) (hi : i ≤ s.size) (hs : s.size ≤ 1000000) (hsp : sp.size ≤ 1000) (h0 : inS sp 0 = false) :
  Calls Tryz.prog 144 #[ptr X, .string sp] w (LtTo X s d great (letF sp s.data.toList i) w) := by
 by_cases h92 : nx s.data.toList i = 92
 ·by_cases h120 : nx s.data.toList (i + 1) = 120
  ·exact letter_hex w X sp s i d great h hs h92 h120
  ·exact letter_esc w X sp s i d great h hs hsp h0 h92 h120
 ·exact letter_plain w X sp s i d great h hi hs hsp h92
end Go.Proofs.YtejdfpieblkapaaGreatDoor
