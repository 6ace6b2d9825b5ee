/- What edits.Move and edits.Cost answer, of edits of moderate places. -/
import Derived.Test.YtpifobaejmfppaaB
namespace Go.Proofs.Ytpifobaejmfppaa
open Go.RowKit

/-- An edit of moderate places. -/
def Ed.Mod (e : Ed) : Prop := 0 ≤ e.f ∧ e.f ≤ e.t ∧ e.t ≤ 1099511627776 ∧ e.s.size ≤ 1099511627776

theorem Ed.Mod.gr {e : Ed} (h : e.Mod) : e.gr = (e.s.size : Int) - (e.t - e.f) := by
  obtain ⟨h1, h2, h3, h4⟩ := h
  unfold Ed.gr; omega

theorem mv_snoc (x : Int) (l : List Ed) (e : Ed) (k : Nat) (h : l[k]? = some e) : mv x (l.take (k + 1)) = mvStep x (mv x (l.take k)) e := by
  rw [take_snoc_of h, mv, List.foldl_append]; rfl

set_option maxHeartbeats 400000 in
theorem move_any (x : Int) (A : Option Addr) (len cap : Nat) (l : List Ed) (w : World) (hlen : l.length = len) (_hl : len ≤ cap) (_hcap : cap ≤ 9223372036854775807) (hsm : len ≤ 1048576) (hE : EdsAt w w.heap.size A l)
    (hM : ∀ e ∈ l, e.Mod) (hx0 : 0 ≤ x) (hx1 : x ≤ 1099511627776) :
    Calls Try.prog 24 #[.int .i64 x, .slice A len cap] w fun e w' => e = .returned (.int .i64 ((mv x l).1 + (mv x l).2)) ∧ Below w.heap.size w w' := by
  have HL := Lib.hid hlen; clear hlen
  have HM := Lib.hid hM; clear hM
  go_enter Try.func24, Try.ntmps24
  go_wp2_with fail
  go_loopw [5, 6, 12] (fun a m i wr => ∃ (k : Nat) (p q : Int), k ≤ len ∧ i = .int .i64 k ∧ a = .int .i64 p ∧ m = .int .i64 q ∧ Hid (mv x (l.take k) = (p, q)) ∧ 0 ≤ p ∧ p ≤ 1099511627776 ∧ -(k * 1099511627776 : Int) ≤ q ∧ q ≤ (k * 1099511627776 : Int) ∧ Below w.heap.size w wr) (fun _ _ i _ => len - (intOf i).toNat)
  case atStart => exact ⟨0, x, 0, Nat.zero_le _, rfl, rfl, rfl, rfl, hx0, hx1, by omega, by omega, Below.refl _ _⟩
  case round =>
    obtain ⟨k, p, q, hk, rfl, rfl, rfl, HR, p0, p1, q0, q1, hb⟩ := hrel
    by_cases hlt : k < len
    · obtain ⟨e, he⟩ := get_some l k (by rw [HL.out]; exact hlt)
      have HS := Lib.hid ((mv_snoc x l e k he).trans (by rw [HR.out]))
      obtain ⟨m1, m2, m3, m4⟩ := HM.out e (List.mem_of_getElem? he)
      have HG := Lib.hid (Ed.Mod.gr ⟨m1, m2, m3, m4⟩)
      obtain ⟨ad, rfl, hab, c0, c1, c2⟩ := (hE.below hb) k e he
      clear he
      have hz := hb.size
      by_cases t1 : e.t ≤ x
      · go_wp2_with (go_at_call 45; refine (growth_any _ _ _ _ m1 m2 m3 m4).mono ?_; rintro e w1 ⟨rfl, hb1⟩)
        go_roundw
        case rel => exact ⟨k + 1, p, q + e.gr, by omega, by go_num, rfl, by rw [HG.out], by show _ = _; rw [HS.out]; simp [mvStep, t1], p0, p1, by rw [HG.out]; omega, by rw [HG.out]; omega, below_tr (hb.alloc hz _) hb1 (by simp; omega)⟩
        case measure => simp [intOf]; omega
      · by_cases t2 : e.f < p
        · go_wp2
          go_roundw
          case rel => exact ⟨k + 1, e.f, q, by omega, by go_num, rfl, rfl, by show _ = _; rw [HS.out]; simp [mvStep, t1, t2], by omega, by omega, by omega, by omega, hb.alloc hz _⟩
          case measure => simp [intOf]; omega
        · go_wp2
          go_roundw
          case rel => exact ⟨k + 1, p, q, by omega, by go_num, rfl, rfl, by show _ = _; rw [HS.out]; simp [mvStep, t1, t2], by omega, by omega, by omega, by omega, hb.alloc hz _⟩
          case measure => simp [intOf]; omega
    · have he : mv x l = (p, q) := by rw [← HR.out, List.take_of_length_le (by rw [HL.out]; omega)]
      have HF := Lib.hid he; clear he
      go_wp2
      go_ret
      exact ⟨ret_int (by rw [HF.out]), hb⟩
end Go.Proofs.Ytpifobaejmfppaa
