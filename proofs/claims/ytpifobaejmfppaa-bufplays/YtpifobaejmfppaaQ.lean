/- Runs of an edited text, as data: what Compose gathers of them. -/
import Derived.Test.YtpifobaejmfppaaLaw4m
namespace Go.Proofs.Ytpifobaejmfppaa
open Go.RowKit

/-- A run of bytes of an edited text. -/
structure Rn where
  x : ByteArray
  kept : Bool
  f : Int

namespace Rn
def bs (r : Rn) : List UInt8 := r.x.data.toList
theorem bs_len (r : Rn) : r.bs.length = r.x.size := Array.length_toList
end Rn

/-- The kept runs stand in order in S, from a place on. -/
def rnOK (S : List UInt8) (a : Int) : List Rn → Prop
  | [] => True
  | r :: t => if r.kept then a ≤ r.f ∧ 0 ≤ r.f ∧ r.f + r.x.size ≤ S.length ∧ r.bs = (S.drop r.f.toNat).take r.x.size ∧ rnOK S (r.f + r.x.size) t else rnOK S a t

def rnText : List Rn → List UInt8
  | [] => []
  | r :: t => r.bs ++ rnText t

theorem rnOK_weak {S : List UInt8} {a b : Int} (h : a ≤ b) : ∀ {l : List Rn}, rnOK S b l → rnOK S a l
  | [], _ => trivial
  | r :: t, k => by
    unfold rnOK at k ⊢
    split
    · rename_i hk
      rw [if_pos hk] at k
      exact ⟨by omega, k.2⟩
    · rename_i hk
      rw [if_neg hk] at k
      exact rnOK_weak h k

/-- A run without its first bytes. -/
def Rn.cut (r : Rn) (o : Nat) : Rn := ⟨r.x.extract o r.x.size, r.kept, r.f + o⟩
/-- A run's bytes from o on, k of them. -/
def Rn.part (r : Rn) (o k : Nat) : Rn := ⟨r.x.extract o (o + k), r.kept, r.f + o⟩

/-- The variables of Compose, as data: what was put down makes, of what was kept so far, all but what is gathered. -/
structure GS (S C : List UInt8) (out : List Ed) (wi : List UInt8) (kept : Int) : Prop where
  k0 : 0 ≤ kept
  k1 : kept ≤ S.length
  rt : rightB 0 kept out = true
  ap : appl (S.take kept.toNat) 0 out ++ wi = C
  ok : ∀ e ∈ out, LeanOK S e

theorem appl_take (S : List UInt8) (k k' : Nat) (hk : k ≤ k') (hk' : k' ≤ S.length) : ∀ (l : List Ed) (a : Nat), a ≤ k → rightB a k l = true → appl (S.take k') a l = appl (S.take k) a l ++ (S.drop k).take (k' - k)
  | [], a, ha, _ => by
    rw [appl, appl, List.drop_take, List.drop_take]
    have := List.take_add (l := S.drop a) (i := k - a) (j := k' - k)
    rw [List.drop_drop, show a + (k - a) = k by omega, show k - a + (k' - k) = k' - a by omega] at this
    exact this
  | e :: r, a, ha, h => by
    rw [rightB_cons, Bool.and_eq_true, Ed.okB_iff] at h
    obtain ⟨⟨h1, h2, h3⟩, h4⟩ := h
    have ih := appl_take S k k' hk hk' r e.t.toNat (by omega) (by rw [Int.toNat_of_nonneg (by omega)]; exact h4)
    rw [appl_cons, appl_cons, ih, List.drop_take, List.drop_take, List.take_take, List.take_take]
    rw [show min (e.f.toNat - a) (k' - a) = e.f.toNat - a by omega, show min (e.f.toNat - a) (k - a) = e.f.toNat - a by omega]
    simp only [List.append_assoc]

theorem rightB_append {n : Int} : ∀ {l1 l2 : List Ed} {a k : Int}, rightB a k l1 = true → a ≤ k → k ≤ n → rightB k n l2 = true → rightB a n (l1 ++ l2) = true
  | [], l2, a, k, _, ha, _, h2 => rightB_weak ha h2
  | e :: r, l2, a, k, h1, ha, hk, h2 => by
    rw [List.cons_append, rightB_cons, Bool.and_eq_true, Ed.okB_iff] at *
    obtain ⟨⟨a1, a2, a3⟩, a4⟩ := h1
    exact ⟨⟨a1, a2, by omega⟩, rightB_append a4 a3 hk h2⟩

theorem appl_append (S : List UInt8) (k : Nat) (hk : k ≤ S.length) (l2 : List Ed) (h2 : rightB k S.length l2 = true) : ∀ (l1 : List Ed) (a : Nat), a ≤ k → rightB a k l1 = true → appl S a (l1 ++ l2) = appl (S.take k) a l1 ++ appl S k l2
  | [], a, ha, _ => by
    rw [List.nil_append, appl, List.drop_take]
    exact (appl_slide S l2 a k ha h2).symm
  | e :: r, a, ha, h => by
    rw [rightB_cons, Bool.and_eq_true, Ed.okB_iff] at h
    obtain ⟨⟨h1, h3, h4⟩, h5⟩ := h
    have ih := appl_append S k hk l2 h2 r e.t.toNat (by omega) (by rw [Int.toNat_of_nonneg (by omega)]; exact h5)
    rw [List.cons_append, appl_cons, appl_cons, ih, List.drop_take, List.take_take]
    rw [show min (e.f.toNat - a) (k - a) = e.f.toNat - a by omega]
    simp only [List.append_assoc]

/-- The last edit, put down. -/
theorem GS.put {S C : List UInt8} {out : List Ed} {wi : List UInt8} {kept : Int} (h : GS S C out wi kept) (tt : Int) (h1 : kept ≤ tt) (h2 : tt ≤ S.length) :
    rightB 0 tt (out ++ leanOf S ⟨kept, tt, ⟨wi.toArray⟩⟩) = true ∧ appl (S.take tt.toNat) 0 (out ++ leanOf S ⟨kept, tt, ⟨wi.toArray⟩⟩) = C ∧ ∀ e ∈ out ++ leanOf S ⟨kept, tt, ⟨wi.toArray⟩⟩, LeanOK S e := by
  have hk0 := h.k0
  have hone : rightB kept S.length [(⟨kept, tt, ⟨wi.toArray⟩⟩ : Ed)] = true := by
    rw [rightB_cons, Bool.and_eq_true, Ed.okB_iff]; exact ⟨⟨Int.le_refl _, h1, h2⟩, rfl⟩
  have hl : rightB kept tt (leanOf S ⟨kept, tt, ⟨wi.toArray⟩⟩) = true := by
    by_cases hc : goneOf S (⟨kept, tt, ⟨wi.toArray⟩⟩ : Ed) = (⟨kept, tt, ⟨wi.toArray⟩⟩ : Ed).bs
    · rw [leanOf_same hc]; rfl
    · have hm : (⟨kept + nOf (goneOf S ⟨kept, tt, ⟨wi.toArray⟩⟩) (⟨kept, tt, ⟨wi.toArray⟩⟩ : Ed).bs, tt - mOf (goneOf S ⟨kept, tt, ⟨wi.toArray⟩⟩) (⟨kept, tt, ⟨wi.toArray⟩⟩ : Ed).bs, ⟨(putOf (goneOf S ⟨kept, tt, ⟨wi.toArray⟩⟩) (⟨kept, tt, ⟨wi.toArray⟩⟩ : Ed).bs).toArray⟩⟩ : Ed) ∈ leanOf S ⟨kept, tt, ⟨wi.toArray⟩⟩ := by rw [leanOf_diff hc]; simp
      obtain ⟨hl, _, _, _, k1, k2, k3, _, _⟩ := leanOf_spec S ⟨kept, tt, ⟨wi.toArray⟩⟩ _ hk0 h1 h2 hm
      rw [hl, rightB_cons, Bool.and_eq_true, Ed.okB_iff]
      exact ⟨⟨k1, k2, k3⟩, rfl⟩
  have hr := rightB_append h.rt hk0 h1 hl
  refine ⟨hr, ?_, ?_⟩
  · have hSl : (S.take tt.toNat).length = tt.toNat := by rw [List.length_take]; omega
    have ht : ((tt.toNat : Nat) : Int) = tt := by omega
    have hkk : ((kept.toNat : Nat) : Int) = kept := by omega
    -- over the whole text, then cut back
    have e1 := appl_append S kept.toNat (by omega) (leanOf S ⟨kept, tt, ⟨wi.toArray⟩⟩) (by
      rw [hkk]
      have := rightB_append (l1 := leanOf S ⟨kept, tt, ⟨wi.toArray⟩⟩) (l2 := []) hl h1 h2 rfl
      rwa [List.append_nil] at this) out 0 (Nat.zero_le _) (by rw [hkk]; exact h.rt)
    have e2 := appl_leanAll S [(⟨kept, tt, ⟨wi.toArray⟩⟩ : Ed)] kept.toNat (by rw [hkk]; exact hone)
    rw [leanAll_one] at e2
    rw [e2, appl_cons, appl] at e1
    have e3 := appl_take S tt.toNat S.length (by omega) (Nat.le_refl _) (out ++ leanOf S ⟨kept, tt, ⟨wi.toArray⟩⟩) 0 (Nat.zero_le _) (by rw [ht]; exact hr)
    rw [List.take_of_length_le (Nat.le_refl _)] at e3
    rw [e3] at e1
    have e4 : (S.drop tt.toNat).take (S.length - tt.toNat) = S.drop tt.toNat := List.take_of_length_le (by rw [List.length_drop]; exact Nat.le_refl _)
    rw [e4] at e1
    have e5 : appl (S.take kept.toNat) 0 out ++ ((S.drop kept.toNat).take ((⟨kept, tt, ⟨wi.toArray⟩⟩ : Ed).f.toNat - kept.toNat) ++ ((⟨kept, tt, ⟨wi.toArray⟩⟩ : Ed).bs ++ S.drop (⟨kept, tt, ⟨wi.toArray⟩⟩ : Ed).t.toNat)) = (appl (S.take kept.toNat) 0 out ++ wi) ++ S.drop tt.toNat := by
      show appl (S.take kept.toNat) 0 out ++ ((S.drop kept.toNat).take (kept.toNat - kept.toNat) ++ (wi.toArray.toList ++ S.drop tt.toNat)) = _
      simp
    rw [e5] at e1
    rw [← h.ap]
    exact List.append_cancel_right e1
  · intro e he
    rcases List.mem_append.1 he with he | he
    · exact h.ok e he
    · exact leanOf_ok S _ e hk0 h1 h2 he

/-- A kept run, gathered. -/
theorem GS.keepRun {S C : List UInt8} {out : List Ed} {wi : List UInt8} {kept : Int} (h : GS S C out wi kept) (r : Rn) (h1 : kept ≤ r.f) (h2 : r.f + r.x.size ≤ S.length) (h3 : r.bs = (S.drop r.f.toNat).take r.x.size) :
    GS S (C ++ r.bs) (out ++ leanOf S ⟨kept, r.f, ⟨wi.toArray⟩⟩) [] (r.f + r.x.size) := by
  have hk0 := h.k0
  obtain ⟨p1, p2, p3⟩ := h.put r.f h1 (by omega)
  refine ⟨by omega, h2, ?_, ?_, p3⟩
  · have := rightB_append (l2 := []) p1 (by omega) (show r.f ≤ r.f + r.x.size by omega) rfl
    rwa [List.append_nil] at this
  · rw [List.append_nil, appl_take S r.f.toNat (r.f + r.x.size).toNat (by omega) (by omega) _ 0 (Nat.zero_le _) (by rw [Int.toNat_of_nonneg (by omega)]; exact p1), p2, h3]
    congr 2; omega

/-- Other bytes, gathered. -/
theorem GS.more {S C : List UInt8} {out : List Ed} {wi : List UInt8} {kept : Int} (h : GS S C out wi kept) (x : List UInt8) : GS S (C ++ x) out (wi ++ x) kept :=
  ⟨h.k0, h.k1, h.rt, by rw [← h.ap, List.append_assoc], h.ok⟩
end Go.Proofs.Ytpifobaejmfppaa
