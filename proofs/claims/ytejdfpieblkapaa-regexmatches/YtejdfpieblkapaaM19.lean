/- Cat, Or; between. -/
import Derived.Test.YtejdfpieblkapaaM18
namespace Go.Proofs.Ytejdfpieblkapaa
open Go.RowKit

theorem RowAt.keep {w w' : World} {A : Option Addr} {bs : List Nat} (h : RowAt w A bs) (hb : Below w.heap.size w w') : RowAt w' A bs := by
  rcases h with h | ⟨g, cs, fz, hA, hg, hc⟩
  · exact .inl h
  · exact .inr ⟨g, cs, fz, hA, (hb.block g (lt_of_heap hg)).trans hg, hc⟩
def Rx.none' : Rx := .set ⟨0, 0, 0, 0⟩
set_option maxHeartbeats 1000000 in
theorem cat_any (c m : Nat) (A : Option Addr) (bs : List Nat) (rs : List Rx) (w : World) (hrow : RowAt w A bs) (hnds : NdsAt w rs bs) (hlen : bs.length = m) (hc : m ≤ c) (hc2 : c ≤ 9223372036854775807) (hm : m ≤ 1000) (hsz : ∀ r ∈ rs, r.size ≤ 100000) :
    Calls Try.prog 13 #[.slice A m c] w (NewNd (nest .cat .empty rs) w) := by
  have HR := Lib.hid hrow; have HN := Lib.hid hnds; have HL := Lib.hid hlen; have HZ := Lib.hid hsz
  clear hrow hnds hlen hsz
  go_enter Try.func13, Try.ntmps13
  go_wp2_with fail
  refine (empty_any w).mono ?_
  rintro e w1 ⟨nb, rfl, h2, h3⟩
  have HC := Lib.hid (nested_any 32 c m nb .cat (.inl ⟨rfl, rfl⟩) A bs rs .empty w1 (HR.out.keep h3) (HN.out.keep (KN.of_below h3)) HL.out hc hc2 hm HZ.out h2)
  have HB := Lib.hid h3
  clear h2 h3
  go_wp2_with fail
  refine HC.out.mono ?_
  rintro e w2 ⟨nb2, rfl, h2, h3⟩
  have HF := Lib.hid (show NewNd (nest .cat .empty rs) w (.returned (ptr nb2)) w2 from NewNd.wider ⟨nb2, rfl, h2, h3⟩ HB.out)
  clear h2 h3
  go_wp2
  go_ret
  exact HF.out
set_option maxHeartbeats 1000000 in
theorem or_any (c m : Nat) (A : Option Addr) (bs : List Nat) (rs : List Rx) (w : World) (hrow : RowAt w A bs) (hnds : NdsAt w rs bs) (hlen : bs.length = m) (hc : m ≤ c) (hc2 : c ≤ 9223372036854775807) (hm : m ≤ 1000) (hsz : ∀ r ∈ rs, r.size ≤ 100000) :
    Calls Try.prog 14 #[.slice A m c] w (NewNd (nest .or Rx.none' rs) w) := by
  have HR := Lib.hid hrow; have HN := Lib.hid hnds; have HL := Lib.hid hlen; have HZ := Lib.hid hsz
  clear hrow hnds hlen hsz
  go_enter Try.func14, Try.ntmps14
  go_wp2_with fail
  refine (set_any ⟨0, 0, 0, 0⟩ w).mono ?_
  rintro e w1 ⟨nb, rfl, h2, h3⟩
  have HC := Lib.hid (nested_any 34 c m nb .or (.inr ⟨rfl, rfl⟩) A bs rs Rx.none' w1 (HR.out.keep h3) (HN.out.keep (KN.of_below h3)) HL.out hc hc2 hm HZ.out h2)
  have HB := Lib.hid h3
  clear h2 h3
  go_wp2_with fail
  refine HC.out.mono ?_
  rintro e w2 ⟨nb2, rfl, h2, h3⟩
  have HF := Lib.hid (show NewNd (nest .or Rx.none' rs) w (.returned (ptr nb2)) w2 from NewNd.wider ⟨nb2, rfl, h2, h3⟩ HB.out)
  clear h2 h3
  go_wp2
  go_ret
  exact HF.out

/-- A byte is put into a set. -/
def Ws.bit (s : Ws) (n : Nat) : Ws := match n / 64 with
  | 0 => { s with a := s.a ||| 2 ^ (n % 64) }
  | 1 => { s with b := s.b ||| 2 ^ (n % 64) }
  | 2 => { s with c := s.c ||| 2 ^ (n % 64) }
  | _ => { s with d := s.d ||| 2 ^ (n % 64) }
/-- The bytes from f on, k of them. -/
def btw (f : Nat) : Nat → Ws
  | 0 => ⟨0, 0, 0, 0⟩
  | k + 1 => (btw f k).bit (f + k)
def Ws.hasN (s : Ws) (n : Nat) : Bool := s.word (n / 64) / 2 ^ (n % 64) % 2 == 1
theorem hasN_eq (s : Ws) (c : UInt8) : s.has c = s.hasN c.toNat := rfl
theorem testBit_eq (x k : Nat) : (x / 2 ^ k % 2 == 1) = x.testBit k := by
  rw [Nat.testBit_eq_decide_div_mod_eq]; rfl
theorem Ws.hasN_bit (s : Ws) (n m : Nat) (hn : n < 256) (hm : m < 256) : (s.bit n).hasN m = (s.hasN m || decide (m = n)) := by
  have key : ∀ x : Nat, (x ||| 2 ^ (n % 64)).testBit (m % 64) = (x.testBit (m % 64) || decide (n % 64 = m % 64)) := fun x => by
    rw [Nat.testBit_or, Nat.testBit_two_pow]
  unfold Ws.hasN
  rw [testBit_eq, testBit_eq]
  rcases (show n / 64 = 0 ∨ n / 64 = 1 ∨ n / 64 = 2 ∨ n / 64 = 3 by omega) with h | h | h | h <;> rcases (show m / 64 = 0 ∨ m / 64 = 1 ∨ m / 64 = 2 ∨ m / 64 = 3 by omega) with h' | h' | h' | h' <;> simp only [Ws.bit, Ws.word, h, h', key] <;> (first | (congr 1; simp; omega) | (have : decide (m = n) = false := decide_eq_false (by omega); rw [this, Bool.or_false]))
theorem btw_has (f k m : Nat) (hk : f + k ≤ 256) (hm : m < 256) : (btw f k).hasN m = decide (f ≤ m ∧ m < f + k) := by
  induction k with
  | zero =>
    have : ¬ (f ≤ m ∧ m < f + 0) := by omega
    rw [decide_eq_false this]
    show (⟨0, 0, 0, 0⟩ : Ws).hasN m = false
    unfold Ws.hasN Ws.word
    rcases (show m / 64 = 0 ∨ m / 64 = 1 ∨ m / 64 = 2 ∨ m / 64 = 3 by omega) with h | h | h | h <;> rw [h] <;> simp
  | succ k ih =>
    show ((btw f k).bit (f + k)).hasN m = _
    rw [Ws.hasN_bit _ _ _ (by omega) hm, ih (by omega)]
    rw [Bool.eq_iff_iff]
    simp
    omega
end Go.Proofs.Ytejdfpieblkapaa
