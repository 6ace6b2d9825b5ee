/- An automaton runs. -/
import Derived.Test.YtejdfpieblkapaaGreatDoorG36b
import Derived.Deep.Onto
namespace Go.Proofs.YtejdfpieblkapaaGreatDoor
open Go.RowKit Go.Shelf

def Df.to (D : Df) (o : Option Nat) (b : UInt8) : Option Nat := o.bind fun n => D.nx n (D.cl b.toNat)
def Df.run (D : Df) (l : List UInt8) : Option Nat := l.foldl D.to (some 0)
theorem Df.run_snoc (D : Df) (l : List UInt8) (b : UInt8) : D.run (l ++ [b]) = D.to (D.run l) b := by simp [Df.run]
theorem Df.run_none (D : Df) (l : List UInt8) (k : Nat) (h : D.run (l.take k) = none) : D.run l = none := by
 have e : l = l.take k ++ l.drop k := (List.take_append_drop k l).symm
 have : ∀ m : List UInt8, m.foldl D.to none = none := by
  intro m
  induction m with
  | nil => rfl
  | cons b m ih => exact ih
 rw [e]
 unfold Df.run at h ⊢
 rw [List.foldl_append, h, this]
def Df.Ok (D : Df) : Prop := 0 < D.N ∧ ∀ n k q, n < D.N → D.nx n k = some q → q < D.N
theorem Df.Ok.fold {D : Df} (h : D.Ok) : ∀ (l : List UInt8) (o : Option Nat), (∀ q, o = some q → q < D.N) → ∀ q, l.foldl D.to o = some q → q < D.N
 | [], _, ho => ho
 | b :: l, o, ho => by
  refine h.fold l (D.to o b) (fun q hq => ?_)
  unfold Df.to at hq
  cases o with
  | none => cases hq
  | some n => exact h.2 n _ q (ho n rfl) hq
theorem Df.Ok.run {D : Df} (h : D.Ok) (l : List UInt8) : ∀ q, D.run l = some q → q < D.N := h.fold l (some 0) (fun q hq => by rw [← Option.some.inj hq]; exact h.1)

set_option maxRecDepth 100000 in
set_option maxHeartbeats 1000000 in
theorem drun_df (w : World) (d gs ga gn cs ca cn : Nat) (D : Df) (s : ByteArray) (h : DfAt w d D gs ga gn cs ca cn) (hk : D.Ok) (hs : s.size ≤ 1000) :
  Calls Tryz.prog 28 #[ptr d, .string s] w fun e w' => e = .returned (nxA (D.run s.data.toList)) ∧ Below w.heap.size w w' := by
 have HD := Lib.hid h; have HK := Lib.hid hk
 clear h hk
 go_enter Tryz.func28, Tryz.ntmps28
 go_wp2_with fail
 go_loopw [6, 7, 8] (fun v o i wr => ∃ k : Nat, k ≤ s.size ∧ i = .int .i64 k ∧ Hid (Below w.heap.size w wr) ∧ ((∃ n, v = pv n ∧ o = .bool true ∧ Hid (D.run (s.data.toList.take k) = some n)) ∨ (v = .int .i64 0 ∧ o = .bool false ∧ Hid (D.run (s.data.toList.take k) = none)))) (fun _ _ i _ => s.size - (intOf i).toNat)
 case atStart => exact ⟨0, Nat.zero_le _, rfl, Below.refl _ _, .inl ⟨0, rfl, rfl, rfl⟩⟩
 case round =>
  obtain ⟨k, hk, rfl, HB, ⟨n, rfl, rfl, HR⟩ | ⟨rfl, rfl, HR⟩⟩ := hrel
  ·by_cases hlt : k < s.size
   ·have hki : (k : Int) < s.size := by omega
    have hk0 : (0 : Int) ≤ k := by omega
    have hlt' : k < s.data.toList.length := by simpa using hlt
    have HT := Lib.hid (show s.data.toList.take (k + 1) = s.data.toList.take k ++ [s[k]'hlt] by rw [List.take_add_one, List.getElem?_eq_getElem hlt']; rfl)
    have HN := Lib.hid (next_df wr d gs ga gn cs ca cn n D (s[k]'hlt) (HD.out.below HB.out) (HK.out.run _ n HR.out))
    have HR2 := Lib.hid (show D.run (s.data.toList.take (k + 1)) = D.nx n (D.cl (s[k]'hlt).toNat) by rw [HT.out, Df.run_snoc, HR.out]; rfl)
    clear HT HR
    go_wp2_with fail
    refine HN.out.mono ?_
    rintro e w2 ⟨rfl, hb2⟩
    have HB2 := Lib.hid (HB.out.trans (hb2.mono HB.out.size))
    clear hb2
    cases ho : D.nx n (D.cl (s[k]'hlt).toNat) with
    | none =>
     rw [ho] at HR2
     unfold nxA
     go_wp2_with fail
     go_roundw
     case rel => exact ⟨k + 1, by omega, by go_num, HB2.out, .inr ⟨rfl, rfl, HR2⟩⟩
     case measure => simp [intOf]; omega
    | some q =>
     rw [ho] at HR2
     unfold nxA
     go_wp2_with fail
     go_roundw
     case rel => exact ⟨k + 1, by omega, by go_num, HB2.out, .inl ⟨q, rfl, rfl, HR2⟩⟩
     case measure => simp [intOf]; omega
   ·obtain rfl : k = s.size := by omega
    have HF := Lib.hid (show D.run s.data.toList = some n by have := HR.out; rwa [List.take_of_length_le (by simp)] at this)
    clear HR
    go_wp2_with fail
    go_ret2
    rw [HF.out]
    exact ⟨rfl, HB.out⟩
  ·have HF := Lib.hid (D.run_none _ k HR.out)
   go_wp2_with fail
   go_ret2
   rw [HF.out]
   exact ⟨rfl, HB.out⟩

end Go.Proofs.YtejdfpieblkapaaGreatDoor
