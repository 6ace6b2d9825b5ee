/- What the document's Apply (frisketref01) answers, of right edits. -/
import Derived.Test.YtpifobaejmfppaaD
import Derived.Lib.Strings
namespace Go.Proofs.Ytpifobaejmfppaa
open Go.RowKit

theorem right_at {n : Int} : ∀ {l : List Ed} {a : Int} {k : Nat} {e : Ed}, rightB a n l = true → l[k]? = some e → a ≤ e.f ∧ e.f ≤ e.t ∧ e.t ≤ n ∧ rightB e.t n (l.drop (k + 1)) = true
  | [], _, _, _, _, h => by simp at h
  | x :: r, a, k, e, h, he => by
    rw [rightB_cons, Bool.and_eq_true, Ed.okB_iff] at h
    obtain ⟨⟨h1, h2, h3⟩, h4⟩ := h
    cases k with
    | zero =>
      simp at he; subst he
      exact ⟨h1, h2, h3, by simpa using h4⟩
    | succ k =>
      have ih := right_at (l := r) (k := k) h4 (by simpa using he)
      exact ⟨by omega, ih.2.1, ih.2.2.1, by simpa using ih.2.2.2⟩

theorem cat3_data (cur x : ByteArray) (f t : Nat) : (cur.extract 0 f ++ x ++ cur.extract t cur.size).data.toList = cur.data.toList.take f ++ (x.data.toList ++ cur.data.toList.drop t) := by
  rw [ByteArray.data_append, ByteArray.data_append, Array.toList_append, Array.toList_append, Lib.extract_data, Lib.extract_data, List.append_assoc, List.drop_zero, Nat.sub_zero]
  congr 2
  rw [List.take_of_length_le]
  rw [List.length_drop, ← Lib.size_eq]; exact Nat.le_refl _

set_option maxHeartbeats 1000000 in
theorem rapply_any (s : ByteArray) (A : Option Addr) (len cap : Nat) (l : List Ed) (w : World) (hlen : l.length = len) (hl : len ≤ cap) (hcap : cap ≤ 9223372036854775807) (hE : EdsAt w w.heap.size A l)
    (hR : rightB 0 s.size l = true) (hS : s.size + tot l ≤ 1099511627776) :
    Calls Try.prog 19 #[.string s, .slice A len cap] w fun e w' => e = .returned (.string ⟨(appl s.data.toList 0 l).toArray⟩) ∧ Below w.heap.size w w' := by
  have HL := Lib.hid hlen; clear hlen
  have HR := Lib.hid hR; clear hR
  have hsz : s.data.toList.length = s.size := (Lib.size_eq s).symm
  have HZ := Lib.hid hsz; clear hsz
  go_enter Try.func19, Try.ntmps19
  go_wp2_with fail
  go_loopw [0, 5] (fun c i wr => ∃ (j : Nat) (cur : ByteArray), j ≤ len ∧ i = .int .i64 ((j : Int) - 1) ∧ c = .string cur ∧ Hid (∀ a : Nat, rightB a s.size (l.drop j) = true → cur.data.toList = s.data.toList.take a ++ appl s.data.toList a (l.drop j)) ∧ Below w.heap.size w wr) (fun _ i _ => (intOf i + 1).toNat)
  case atStart => exact ⟨len, s, Nat.le_refl _, rfl, rfl, fun a _ => by rw [List.drop_of_length_le (by rw [HL.out]; exact Nat.le_refl _), appl, List.take_append_drop], Below.refl _ _⟩
  case round =>
    obtain ⟨j, cur, hj, rfl, rfl, HC, hb⟩ := hrel
    cases j with
    | zero =>
      go_wp2
      go_ret
      refine ⟨?_, hb⟩
      have := HC.out 0 (by simpa using HR.out)
      simp only [List.take_zero, List.drop_zero, List.nil_append] at this
      rw [← this, Lib.mk_data]; rfl
    | succ k =>
      obtain ⟨e, he⟩ := get_some l k (by rw [HL.out]; omega)
      obtain ⟨q1, q2, q3, q4⟩ := right_at HR.out he
      have HD := Lib.hid (drop_cons_of he)
      have ht : ((e.t.toNat : Nat) : Int) = e.t := by omega
      have hcur := HC.out e.t.toNat (by rw [ht]; exact q4)
      have hln := appl_len s.data.toList (l.drop (k + 1)) e.t.toNat (by rw [HZ.out]; omega) (by rw [ht, HZ.out]; exact q4)
      have hcs : (cur.size : Int) = s.size + sumGr (l.drop (k + 1)) := by
        rw [Lib.size_eq, hcur, List.length_append, List.length_take, HZ.out]
        rw [HZ.out] at hln
        omega
      have hsg := sumGr_le (l.drop (k + 1))
      have htd := tot_drop_le l (k + 1)
      have hlb : e.t ≤ (cur.size : Int) := by rw [HZ.out] at hln; omega
      have hub : cur.size ≤ 1099511627776 := by omega
      have hes : e.s.size ≤ 1099511627776 := by have := size_le_tot (List.mem_of_getElem? he); omega
      obtain ⟨ad, rfl, hab, c0, c1, c2⟩ := (hE.below hb) k e he
      rw [show (((k + 1 : Nat) : Int) - 1) = (k : Int) by omega]
      have HCC := Lib.hid hcur; clear hcur hln hcs hsg htd he ht
      have hki : (k : Int) < len := by omega
      have hk0 : (0 : Int) ≤ k := by omega
      have hz := hb.size
      go_wp2_with fail
      go_quiet (fail)
      go_wp2
      go_roundw
      case rel =>
        refine ⟨k, _, by omega, rfl, rfl, fun a ha => ?_, below_drewN hb _⟩
        rw [HD.out] at ha ⊢
        rw [← appl_back s.data.toList a e (l.drop (k + 1)) (by rw [HZ.out]; exact ha), ← HCC.out, cat3_data]
        rfl
      case measure => simp [intOf]
end Go.Proofs.Ytpifobaejmfppaa
