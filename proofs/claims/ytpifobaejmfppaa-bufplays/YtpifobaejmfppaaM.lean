/- What edits.Lean answers. -/
import Derived.Test.YtpifobaejmfppaaL
namespace Go.Proofs.Ytpifobaejmfppaa
open Go.RowKit

def leanAll (S : List UInt8) (l : List Ed) : List Ed := l.flatMap (leanOf S)
theorem leanAll_append (S : List UInt8) (a b : List Ed) : leanAll S (a ++ b) = leanAll S a ++ leanAll S b := by simp [leanAll]
theorem leanAll_one (S : List UInt8) (e : Ed) : leanAll S [e] = leanOf S e := by simp [leanAll]
theorem leanOf_len (S : List UInt8) (e : Ed) : (leanOf S e).length ≤ 1 := by unfold leanOf; split <;> simp
theorem leanAll_len (S : List UInt8) : ∀ (l : List Ed), (leanAll S l).length ≤ l.length
  | [] => by simp [leanAll]
  | e :: r => by
    have h1 := leanOf_len S e
    have h2 := leanAll_len S r
    rw [show e :: r = [e] ++ r from rfl, leanAll_append, leanAll_one, List.length_append, List.length_append]
    simp; omega

set_option maxHeartbeats 400000 in
theorem lean_no (s : ByteArray) (A : Option Addr) (len cap : Nat) (l : List Ed) (w : World) (hlen : l.length = len) (hl : len ≤ cap) (hcap : cap ≤ 9223372036854775807) (hE : EdsAt w w.heap.size A l)
    (hR : rightB 0 s.size l = false) :
    Calls Try.prog 20 #[.string s, .slice A len cap] w fun e w' => e = .returned (.tuple #[.slice none 0 0, .int .i64 2]) ∧ Below w.heap.size w w' := by
  have c1 := Lib.hid (right_any s.size A len cap l w hlen hl hcap hE)
  have HR := Lib.hid hR; clear hR hlen
  go_enter Try.func20, Try.ntmps20
  go_wp2_with fail
  refine c1.out.mono ?_
  rintro e w1 ⟨rfl, hb1⟩
  rw [HR.out]
  go_wp2
  go_ret2
  exact ⟨rfl, hb1⟩

set_option maxRecDepth 100000 in
set_option maxHeartbeats 1000000 in
theorem lean_yes (s : ByteArray) (A : Option Addr) (len cap : Nat) (l : List Ed) (w : World) (hlen : l.length = len) (hl : len ≤ cap) (hcap : cap ≤ 9223372036854775807) (hsm : len ≤ 1048576) (hE : EdsAt w w.heap.size A l)
    (hR : rightB 0 s.size l = true) (hS : s.size + tot l ≤ 1099511627776) :
    Calls Try.prog 20 #[.string s, .slice A len cap] w (EdsBack w.heap.size (leanAll s.data.toList l) 0 w) := by
  have c1 := Lib.hid (right_any s.size A len cap l w hlen hl hcap hE)
  have HM := Lib.hid (right_mod hR (by omega) (by omega))
  have HL := Lib.hid hlen; clear hlen
  have HR := Lib.hid hR; clear hR
  go_enter Try.func20, Try.ntmps20
  go_wp2_with fail
  refine c1.out.mono ?_
  rintro e w1 ⟨rfl, hb1⟩
  rw [HR.out]
  go_wp2_with fail
  go_loopw [6, 16] (fun v i wr => ∃ (k n c : Nat) (A' : Option Addr), k ≤ len ∧ n ≤ k ∧ i = .int .i64 k ∧ v = .slice A' n c ∧ Hid ((leanAll s.data.toList (l.take k)).length = n) ∧ Hid (wr.ownsRow w.heap.size 35 3 (.slice A' n c) n (edCells (leanAll s.data.toList (l.take k)))) ∧ Below w.heap.size w wr) (fun _ i _ => len - (intOf i).toNat)
  case atStart => exact ⟨0, 0, 0, none, Nat.zero_le _, Nat.le_refl _, rfl, rfl, rfl, World.ownsRow_nil _ _ _ _, hb1⟩
  case round =>
    clear hb1
    obtain ⟨k, n, c, A', hk, hnk, rfl, rfl, HN, HO, hb⟩ := hrel
    by_cases hlt : k < len
    · obtain ⟨e, he⟩ := get_some l k (by rw [HL.out]; exact hlt)
      have HT := Lib.hid (show leanAll s.data.toList (l.take (k + 1)) = leanAll s.data.toList (l.take k) ++ leanOf s.data.toList e by rw [take_snoc_of he, leanAll_append, leanAll_one])
      obtain ⟨m1, m2, m3, m4⟩ := HM.out e (List.mem_of_getElem? he)
      obtain ⟨_, _, q3, _⟩ := right_at HR.out he
      obtain ⟨ad, rfl, hab, c0, c1, c2⟩ := (hE.below hb) k e he
      clear he
      have hzb := hb.size
      have hol := leanOf_len s.data.toList e
      go_wp2_with fail
      refine (appendLean_any s e.s e.f e.t A' n c w.heap.size _ _ (HO.out.alloc _) (by simp; omega) (by omega) m1 m2 q3 (by omega) m4).mono ?_
      rintro x w2 ⟨A2, cc, rfl, ho2, hg2, _⟩
      have hb2 : Below w.heap.size w w2 := (hb.alloc hzb _).grown hg2 (by simp; omega) (fun g hg => (HO.out.lt g hg).1)
      have HO2 := Lib.hid ho2
      clear ho2 hg2
      go_wp2
      go_roundw
      case rel =>
        refine ⟨k + 1, n + (leanOf s.data.toList e).length, cc, A2, by omega, by omega, by go_num, rfl, ?_, ?_, hb2⟩
        · show (_ : Nat) = _
          rw [HT.out, List.length_append, HN.out]
        · show World.ownsRow _ _ _ _ _ _ _
          rw [HT.out, edCells_append]; exact HO2.out
      case measure => simp [intOf]; omega
    · go_wp2
      refine bodyPost_ret (v := .tuple #[.slice A' n c, .int .i64 0]) (by simp [results, Try.results20, go_sem]) rfl ?_
      have hkl : l.take k = l := List.take_of_length_le (by rw [HL.out]; omega)
      have ho := HO.out
      have hnn := HN.out
      rw [hkl] at ho hnn
      unfold EdsBack
      rw [hnn]
      exact ⟨A', c, rfl, (own_cap ho).1, (own_cap ho).2, ho, hb⟩
end Go.Proofs.Ytpifobaejmfppaa
