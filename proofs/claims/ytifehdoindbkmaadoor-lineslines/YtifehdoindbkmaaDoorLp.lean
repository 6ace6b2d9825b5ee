/- What Indent of an index answers; lines byte by byte. -/
import Derived.Test.YtifehdoindbkmaaDoorLn
import Derived.Test.YtifehdoindbkmaaDoorShelfT
namespace Go.Proofs.YtifehdoindbkmaaDoor
open Go.RowKit Go.Shelf

def blank (c : UInt8) : Bool := c == 32 || c == 9
/-- The bytes of a line that begins at f and ends at t. -/
def lnB (s : ByteArray) (f t : Nat) : List UInt8 := (s.data.toList.drop f).take (t - f)
theorem ext_lnB (s : ByteArray) (f t : Nat) : (s.extract f t).data.toList = lnB s f t := Lib.extract_data s f t

theorem trim_len (l : List UInt8) : (l.length : Int) - ((Lib.trimLeftS l [32, 9]).length : Int) = (l.takeWhile blank).length := by
  have h1 : Lib.trimLeftS l [32, 9] = l.dropWhile blank := by
    unfold Lib.trimLeftS
    congr 1
    funext c
    simp [blank]
    rfl
  have h2 := congrArg List.length (List.takeWhile_append_dropWhile (p := blank) (l := l))
  rw [List.length_append] at h2
  rw [h1]; omega

set_option maxRecDepth 100000 in
set_option maxHeartbeats 2000000 in
theorem indent_no (base X c : Nat) (s : ByteArray) (A : Option Addr) (n : Int) (w : World) (hX : XAt w base X s A c) (hn : n < 0 ∨ ((bgs s).length : Int) < n) (hs : s.size ≤ 1000000) :
    Calls Tryd.prog 13 #[.pointer (some ⟨X, 0, none⟩), .int .i64 n] w fun e w' => e = .returned (.int .i64 0) ∧ Below w.heap.size w w' := by
  have HC := line_no base X c s A n w hX hn hs
  clear hX hn
  go_enter Tryd.func13, Tryd.ntmps13
  go_wp2_with fail
  refine HC.mono ?_
  rintro e w1 ⟨rfl, hb⟩
  clear HC
  go_wp2
  go_ret
  exact ⟨rfl, hb.alloc hb.size _⟩

set_option maxRecDepth 100000 in
set_option maxHeartbeats 2000000 in
theorem indent_yes (base X c n f t : Nat) (s : ByteArray) (A : Option Addr) (w : World) (hX : XAt w base X s A c) (hn : n ≤ (bgs s).length) (hf : bgOf s n = f) (ht : enOf s n = t) (hft : f ≤ t) (hts : t ≤ s.size) (hs : s.size ≤ 1000000) :
    Calls Tryd.prog 13 #[.pointer (some ⟨X, 0, none⟩), .int .i64 n] w fun e w' => e = .returned (.int .i64 ((lnB s f t).takeWhile blank).length) ∧ Below w.heap.size w w' := by
  have HC := line_yes base X c n s A w hX hn hs
  rw [hf, ht] at HC
  clear hf ht
  have hlen : (s.extract f t).size = t - f := by rw [Lib.size_eq, ext_lnB, lnB, List.length_take, List.length_drop, ← Lib.size_eq]; omega
  have htl := trim_len (lnB s f t)
  have hl2 : (lnB s f t).length = t - f := by rw [← ext_lnB, ← Lib.size_eq, hlen]
  rw [hl2] at htl
  have HT := fun W => Tryd.strings_TrimLeft_set (s.extract f t) W
  rw [ext_lnB] at HT
  obtain ⟨R, hR⟩ : ∃ R : ByteArray, R = ⟨(Lib.trimLeftS (lnB s f t) [32, 9]).toArray⟩ := ⟨_, rfl⟩
  have hRs : R.size = (Lib.trimLeftS (lnB s f t) [32, 9]).length := by rw [hR, Lib.size_eq]
  rw [← hR] at HT
  rw [← hRs] at htl
  have hr2 : R.size ≤ t - f := by omega
  have HTL := Lib.hid htl
  clear hR hRs htl hl2
  have h1 : (f : Int) ≤ (t : Int) := by omega
  have h2 : (t : Int) ≤ (s.size : Int) := by omega
  have h3 : (0 : Int) ≤ (f : Int) := by omega
  have HX := Lib.hid hX; clear hX
  go_enter Tryd.func13, Tryd.ntmps13
  go_wp2_with fail
  refine HC.mono ?_
  rintro e w1 ⟨rfl, hb⟩
  have hX1 := HX.out.below hb
  have hX2 := hX1.below ((Below.refl _ w1).alloc (Nat.le_refl _) (.cells #[.int .i64 f, .int .i64 t] 26))
  have c0 := hX2.c0
  have HB := Lib.hid (hb.alloc hb.size (.cells #[.int .i64 f, .int .i64 t] 26))
  clear HC hb hX1 hX2
  go_wp2_with fail
  go_quiet (fail)
  go_wp2_with fail
  refine (HT _).mono ?_
  rintro e w2 ⟨rfl, hb2⟩
  have HB2 := Lib.hid ((below_drewN HB.out nq).trans (hb2.mono (below_drewN HB.out nq).size))
  clear HT hb2
  have hle : ((s.extract f t).size : Int) = (t : Int) - (f : Int) := by rw [hlen]; omega
  clear hlen
  go_wp2
  go_ret
  refine ⟨ret_int ?_, HB2.out⟩
  exact HTL.out
end Go.Proofs.YtifehdoindbkmaaDoor
