/- What a reader reads: hex digits. -/
import Derived.Test.YtejdfpieblkapaaM21
namespace Go.Proofs.Ytejdfpieblkapaa
open Go.RowKit Go.Shelf

theorem indexByte_range (l : List UInt8) (c : UInt8) : -1 ≤ Lib.indexByte l c ∧ Lib.indexByte l c < l.length := by
  induction l with
  | nil => simp [Lib.indexByte]
  | cons b l ih =>
    simp only [Lib.indexByte]
    split
    · simp
    · split
      · simp; omega
      · rename_i h; simp at h; simp; omega

def HX : ByteArray := ⟨#[48, 49, 50, 51, 52, 53, 54, 55, 56, 57, 97, 98, 99, 100, 101, 102]⟩
/-- The number of k hex digits. -/
def hexP (L : List UInt8) (i : Nat) : Nat → Option Nat
  | 0 => some 0
  | k + 1 => (hexP L i k).bind fun n => if Lib.indexByte HX.data.toList (nx L (i + k)).toUInt8 < 0 then none else some (n * 16 + (Lib.indexByte HX.data.toList (nx L (i + k)).toUInt8).toNat)
theorem hexP_lt (L : List UInt8) (i k n : Nat) (h : hexP L i k = some n) : n < 16 ^ k := by
  induction k generalizing n with
  | zero => simp [hexP] at h; omega
  | succ k ih =>
    simp only [hexP] at h
    obtain ⟨m, hm, hh⟩ := Option.bind_eq_some_iff.1 h
    have := ih m hm
    split at hh
    · cases hh
    · have hr := (indexByte_range HX.data.toList (nx L (i + k)).toUInt8).2
      have hlen : HX.data.toList.length = 16 := rfl
      rw [hlen] at hr
      injection hh with hh
      rw [Nat.pow_succ]
      omega
/-- What a reader answers. -/
def RdTo (P : Nat) (s : ByteArray) (ov : Value) (d : Int) (l : Bool) (r : Option (Nat × Nat)) (w : World) (e : Ending) (w' : World) : Prop :=
  Kb (fun j => j = P) w w' ∧ ((∃ b j, r = some (b, j) ∧ e = .returned (.tuple #[.int .u8 b, .bool true]) ∧ PsB w' P s j ov d l) ∨ (r = none ∧ e = .returned (.tuple #[.int .u8 0, .bool false]) ∧ ∃ j, j ≤ s.size ∧ PsB w' P s j ov d l))
def hexF (L : List UInt8) (i : Nat) : Option (Nat × Nat) := (hexP L i 2).map fun n => (n, i + 2)
theorem hexP_in {s : ByteArray} {i k n : Nat} (h : hexP s.data.toList i k = some n) (hi : i ≤ s.size) : i + k ≤ s.size := by
  induction k generalizing n with
  | zero => omega
  | succ k ih =>
    simp only [hexP] at h
    obtain ⟨m, hm, hh⟩ := Option.bind_eq_some_iff.1 h
    have := ih hm
    split at hh
    · cases hh
    · rename_i hx
      rcases Nat.lt_or_ge (i + k) s.size with h' | h'
      · omega
      · exfalso
        apply hx
        unfold nx
        rw [List.getElem?_eq_none (by rw [← Lib.size_eq]; exact h')]
        decide

theorem hexP_none {L : List UInt8} {i k m : Nat} (h : hexP L i k = none) (hm : k ≤ m) : hexP L i m = none := by
  induction m with
  | zero => obtain rfl : k = 0 := by omega
            exact h
  | succ m ih =>
    rcases Nat.lt_or_ge m k with h' | h'
    · obtain rfl : k = m + 1 := by omega
      exact h
    · simp only [hexP]; rw [ih h']; rfl

set_option maxRecDepth 100000 in
set_option maxHeartbeats 2000000 in
theorem hex_any (w : World) (P : Nat) (s : ByteArray) (i : Nat) (ov : Value) (d : Int) (l : Bool) (h : PsB w P s i ov d l) (hi : i ≤ s.size) (hs : s.size ≤ 1000000) :
    Calls Try.prog 73 #[ptr P] w (RdTo P s ov d l (hexF s.data.toList i) w) := by
  have HH := Lib.hid h
  clear h
  go_enter Try.func73, Try.ntmps73
  go_wp2_with fail
  go_loopw [4, 6] (fun a k wr => ∃ (j n : Nat), j ≤ 2 ∧ k = .int .i64 j ∧ a = .int .i64 n ∧ n < 65536 ∧ Hid (hexP s.data.toList i j = some n) ∧ Hid (PsB wr P s (i + j) ov d l) ∧ Hid (Kb (fun j => j = P) w wr)) (fun _ k _ => 2 - (intOf k).toNat)
  case atStart => exact ⟨0, 0, by omega, rfl, rfl, by omega, rfl, HH.out, Kb.refl _ _⟩
  case round =>
    obtain ⟨j, n, hj, rfl, rfl, hn, HX1, HP, HK⟩ := hrel
    have hij := hexP_in HX1.out hi
    by_cases hlt : j < 2
    · have hji : (j : Int) < 2 := by omega
      have HN := Lib.hid (next_any wr P s (i + j) ov d l HP.out hij hs)
      have hxs : hexP s.data.toList i (j + 1) = if Lib.indexByte HX.data.toList (nx s.data.toList (i + j)).toUInt8 < 0 then none else some (n * 16 + (Lib.indexByte HX.data.toList (nx s.data.toList (i + j)).toUInt8).toNat) := by
        simp only [hexP]; rw [HX1.out]; rfl
      have hrg := indexByte_range HX.data.toList (nx s.data.toList (i + j)).toUInt8
      have hl16 : HX.data.toList.length = 16 := rfl
      rw [hl16] at hrg
      obtain ⟨x, hx⟩ : ∃ x, x = nx s.data.toList (i + j) := ⟨_, rfl⟩
      rw [← hx] at HN hxs hrg
      obtain ⟨dg, hdg⟩ : ∃ dg, dg = Lib.indexByte HX.data.toList x.toUInt8 := ⟨_, rfl⟩
      have HIB := fun w' => indexByte_any HX x w'
      rw [← hdg] at HIB hxs hrg
      have HXS := Lib.hid hxs
      clear hxs hx hdg
      go_wp2_with fail
      refine HN.out.mono ?_
      rintro e w1 ⟨rfl, h1, h2⟩
      go_wp2_with fail
      refine (HIB w1).mono ?_
      rintro e w2 ⟨rfl, rfl⟩
      have HKb := Lib.hid (HK.out.trans (Kb.of_below (fun j => j = P) h2) (fun _ _ h => h))
      have c1 : w2.cell? ⟨P, 1, none⟩ = some (.int .i64 ((i + j : Nat) : Int)) := by unfold PsB at h1; rw [Lib.cell_of_heap h1]; rfl
      have f1 : w2.frozen? ⟨P, 1, none⟩ = false := Lib.frozen_of_heap h1 1
      have H1 := Lib.hid h1
      clear h1 h2 HIB
      by_cases hdg : dg < 0
      · have hno : hexF s.data.toList i = none := by
          unfold hexF
          rw [hexP_none (k := j + 1) (by rw [HXS.out, if_pos hdg]) (by omega)]; rfl
        have HNO := Lib.hid hno
        clear hno
        go_wp2_with fail
        refine bodyPost_ret (results_tmp2 rfl _ _ _) rfl ?_
        exact ⟨HKb.out, .inr ⟨HNO.out, rfl, i + j, hij, H1.out⟩⟩
      · have hnn : hexP s.data.toList i (j + 1) = some (n * 16 + dg.toNat) := by rw [HXS.out, if_neg hdg]
        have hij1 := hexP_in hnn hi
        obtain ⟨dn, hdn⟩ : ∃ dn : Nat, dg = dn := ⟨dg.toNat, by omega⟩
        subst hdn
        have hn2 := hexP_lt _ _ _ _ hnn
        have hpw : 16 ^ (j + 1) ≤ 256 := by rcases (show j = 0 ∨ j = 1 by omega) with rfl | rfl <;> decide
        simp only [Int.toNat_natCast] at hnn hn2
        have HNN := Lib.hid hnn
        have e1 : IntKind.i64.wrap ((n : Int) * 16) = ((n * 16 : Nat) : Int) := by rw [IntWalk.i64_in _ (by omega)]; omega
        have e2 : IntKind.i64.wrap (((n * 16 : Nat) : Int) + dn) = ((n * 16 + dn : Nat) : Int) := by rw [IntWalk.i64_in _ (by omega)]; omega
        have e3 : IntKind.i64.wrap (((i + j : Nat) : Int) + 1) = ((i + (j + 1) : Nat) : Int) := by rw [IntWalk.i64_in _ (by omega)]; omega
        generalize hm1 : ((n * 16 : Nat) : Int) = m1 at e1 e2
        generalize hm2 : ((n * 16 + dn : Nat) : Int) = m2 at e2
        generalize hm3 : ((i + (j + 1) : Nat) : Int) = m3 at e3
        generalize hm4 : ((i + j : Nat) : Int) = m4 at e3 c1
        have HM2 := Lib.hid hm2; have HM3 := Lib.hid hm3
        clear hm1 hm2 hm3 hm4 hnn HXS
        go_wp2
        go_roundw
        case rel => exact ⟨j + 1, n * 16 + dn, by omega, by go_num, by rw [HM2.out], by omega, HNN.out, by rw [← HM3.out]; exact H1.out.step _, HKb.out.trans (Kb.setCell w2 ⟨P, 1, none⟩ _) (fun _ _ h => h)⟩
        case measure => simp [intOf]; omega
    · obtain rfl : j = 2 := by omega
      have hn2 := hexP_lt _ _ _ _ HX1.out
      have hn3 : n < 256 := by simpa using hn2
      have hyes : hexF s.data.toList i = some (n, i + 2) := by unfold hexF; rw [HX1.out]; rfl
      have e1 : IntKind.u8.wrap (n : Int) = (n : Int) := by rw [IntKind.wrap_u8]; omega
      have HY := Lib.hid hyes
      clear hyes
      go_wp2_with fail
      refine bodyPost_ret (results_tmp2 rfl _ _ _) rfl ?_
      exact ⟨HK.out, .inl ⟨n, i + 2, HY.out, rfl, HP.out⟩⟩
end Go.Proofs.Ytejdfpieblkapaa
