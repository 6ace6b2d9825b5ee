/- Lists of lean edits: right, and making the same. -/
import Derived.Test.YtpifobaejmfppaaM
namespace Go.Proofs.Ytpifobaejmfppaa
open Go.RowKit

theorem right_leanAll (S : List UInt8) : ∀ (l : List Ed) (a : Int), 0 ≤ a → rightB a S.length l = true → rightB a S.length (leanAll S l) = true
  | [], _, _, _ => rfl
  | e :: r, a, ha, h => by
    rw [rightB_cons, Bool.and_eq_true, Ed.okB_iff] at h
    obtain ⟨⟨h1, h2, h3⟩, h4⟩ := h
    have ih := right_leanAll S r e.t (by omega) h4
    rw [show e :: r = [e] ++ r from rfl, leanAll_append, leanAll_one]
    by_cases hc : goneOf S e = e.bs
    · rw [leanOf_same hc, List.nil_append]; exact rightB_weak (by omega) ih
    · have hm : (⟨e.f + nOf (goneOf S e) e.bs, e.t - mOf (goneOf S e) e.bs, ⟨(putOf (goneOf S e) e.bs).toArray⟩⟩ : Ed) ∈ leanOf S e := by rw [leanOf_diff hc]; simp
      obtain ⟨hl, _, _, _, k1, k2, k3, _, _⟩ := leanOf_spec S e _ (by omega) h2 h3 hm
      rw [hl, List.singleton_append, rightB_cons, Bool.and_eq_true, Ed.okB_iff]
      exact ⟨⟨by omega, k2, by omega⟩, rightB_weak k3 ih⟩

theorem appl_slide (S : List UInt8) (L : List Ed) (b t : Nat) (hbt : b ≤ t) (hL : rightB t S.length L = true) : (S.drop b).take (t - b) ++ appl S t L = appl S b L := by
  cases L with
  | nil =>
    rw [appl, appl]
    have := List.take_append_drop (t - b) (S.drop b)
    rwa [List.drop_drop, show b + (t - b) = t by omega] at this
  | cons x r =>
    rw [rightB_cons, Bool.and_eq_true, Ed.okB_iff] at hL
    rw [appl_cons, appl_cons, ← List.append_assoc]
    congr 1
    rw [show x.f.toNat - b = (t - b) + (x.f.toNat - t) by omega, List.take_add, List.drop_drop, show b + (t - b) = t by omega]

theorem appl_leanAll (S : List UInt8) : ∀ (l : List Ed) (a : Nat), rightB a S.length l = true → appl S a (leanAll S l) = appl S a l
  | [], _, _ => rfl
  | e :: r, a, h => by
    rw [rightB_cons, Bool.and_eq_true, Ed.okB_iff] at h
    obtain ⟨⟨h1, h2, h3⟩, h4⟩ := h
    have ht : ((e.t.toNat : Nat) : Int) = e.t := by omega
    have ih := appl_leanAll S r e.t.toNat (by rw [ht]; exact h4)
    rw [show e :: r = [e] ++ r from rfl, leanAll_append, leanAll_one]
    refine leanOf_appl S e r (leanAll S r) a h1 h2 h3 fun b hb => ?_
    rw [← ih]
    exact appl_slide S _ b e.t.toNat (by omega) (right_leanAll S r _ (by omega) (by rw [ht]; exact h4))

theorem tot_append : ∀ (a b : List Ed), tot (a ++ b) = tot a + tot b
  | [], b => by simp [tot]
  | e :: r, b => by rw [List.cons_append, tot, tot, tot_append r b]; omega

theorem tot_leanAll (S : List UInt8) : ∀ (l : List Ed), tot (leanAll S l) ≤ tot l
  | [] => by simp [leanAll, tot]
  | e :: r => by
    have ih := tot_leanAll S r
    rw [show e :: r = [e] ++ r from rfl, leanAll_append, leanAll_one, tot_append, tot_append]
    have : tot (leanOf S e) ≤ tot [e] := by
      by_cases hc : goneOf S e = e.bs
      · rw [leanOf_same hc]; simp [tot]
      · rw [leanOf_diff hc]
        simp only [tot]
        have h1 : (⟨(putOf (goneOf S e) e.bs).toArray⟩ : ByteArray).size = (putOf (goneOf S e) e.bs).length := by rw [Lib.size_eq]
        have h2 := putOf_len (goneOf S e) e.bs
        have h3 := Ed.bs_len e
        omega
    omega

/-- The lean edit that an edit leaves, in its place. -/
theorem lean_at {S : List UInt8} {l : List Ed} {i : Nat} {e : Ed} (hR : rightB 0 S.length l = true) (he : l[i]? = some e) (hne : goneOf S e ≠ e.bs) :
    ∃ e' : Ed, (leanAll S l)[(leanAll S (l.take i)).length]? = some e' ∧ (leanAll S (l.take i)).length < (leanAll S l).length ∧ (leanAll S (l.take (i + 1))).length = (leanAll S (l.take i)).length + 1 ∧ e'.f = e.f + nOf (goneOf S e) e.bs ∧ 0 ≤ e'.f ∧ e.f ≤ e'.f ∧ e'.f ≤ e'.t ∧ e'.t ≤ e.t ∧ e.t ≤ S.length ∧ LeanOK S e' ∧ e'.s.size ≤ e.s.size := by
  obtain ⟨r1, r2, r3, _⟩ := right_at hR he
  have hm : (⟨e.f + nOf (goneOf S e) e.bs, e.t - mOf (goneOf S e) e.bs, ⟨(putOf (goneOf S e) e.bs).toArray⟩⟩ : Ed) ∈ leanOf S e := by rw [leanOf_diff hne]; simp
  obtain ⟨hl, k0, _, kb, k1, k2, k3, _, _⟩ := leanOf_spec S e _ r1 r2 r3 hm
  have hok := leanOf_ok S e _ r1 r2 r3 hm
  have hsp : leanAll S l = leanAll S (l.take i) ++ (leanOf S e ++ leanAll S (l.drop (i + 1))) := by
    conv => lhs; rw [← List.take_append_drop i l, drop_cons_of he]
    rw [leanAll_append, show e :: l.drop (i + 1) = [e] ++ l.drop (i + 1) from rfl, leanAll_append, leanAll_one]
  have hgt : leanAll S (l.take (i + 1)) = leanAll S (l.take i) ++ leanOf S e := by rw [take_snoc_of he, leanAll_append, leanAll_one]
  refine ⟨_, ?_, ?_, ?_, k0, by omega, k1, k2, k3, r3, hok, ?_⟩
  · rw [hsp, hl, List.getElem?_append_right (Nat.le_refl _), Nat.sub_self]; rfl
  · rw [hsp, hl, List.length_append]; simp
  · rw [hgt, hl, List.length_append]; rfl
  · have h1 := Ed.bs_len (⟨e.f + nOf (goneOf S e) e.bs, e.t - mOf (goneOf S e) e.bs, ⟨(putOf (goneOf S e) e.bs).toArray⟩⟩ : Ed)
    rw [kb, putOf_len] at h1
    have := Ed.bs_len e
    omega

theorem lean_skip {S : List UInt8} {l : List Ed} {i : Nat} {e : Ed} (he : l[i]? = some e) (hc : goneOf S e = e.bs) : leanAll S (l.take (i + 1)) = leanAll S (l.take i) := by
  rw [take_snoc_of he, leanAll_append, leanAll_one, leanOf_same hc, List.append_nil]
end Go.Proofs.Ytpifobaejmfppaa
