/- Carried from another seat. -/
import Derived.Test.YtejdfpieblkapaaGreatDoorM25
namespace Go.Proofs.YtejdfpieblkapaaGreatDoor
open Go.RowKit Go.Shelf


def repF (r : Rx) (c : Nat) : Rx := if c = 42 then .star r else if c = 43 then .cat r (.star r) else .or r .empty

theorem row_two (w : World) (a b : Nat) : RowAt (w.alloc (.cells #[ptr a, ptr b] 68)) (some ⟨w.heap.size, 0, none⟩) [a, b] := .inr ⟨w.heap.size, _, _, rfl, heap_alloc_new w _, fun i x hx => by
  rcases i with _ | _ | i
  · have : a = x := by simpa using hx
    subst this; rfl
  · have : b = x := by simpa using hx
    subst this; rfl
  · simp at hx⟩
theorem nds_two {w : World} {r t : Rx} {a b : Nat} (hr : NdAt w r a) (ht : NdAt w t b) : NdsAt w [r, t] [a, b] := ⟨rfl, fun i x y hx hy => by
  rcases i with _ | _ | i
  · have e1 : r = x := by simpa using hx
    have e2 : a = y := by simpa using hy
    subst e1; subst e2; exact hr
  · have e1 : t = x := by simpa using hx
    have e2 : b = y := by simpa using hy
    subst e1; subst e2; exact ht
  · simp at hx⟩

set_option maxHeartbeats 1000000 in
theorem repeated_any (w : World) (r : Rx) (nb c : Nat) (hn : NdAt w r nb) (hsz : r.size ≤ 90000) : Calls Tryz.prog 132 #[ptr nb, .int .u8 c] w (NewNd (repF r c) w) := by
  by_cases h1 : c = 42
  · subst h1
    have HS := Lib.hid (star_any r nb w hn (by omega))
    clear hn
    go_enter Tryz.func132, Tryz.ntmps132
    go_wp2_with fail
    refine HS.out.mono ?_
    rintro e w1 ⟨b1, rfl, h2, h3⟩
    have HF := Lib.hid (show NewNd (repF r 42) w (.returned (ptr b1)) w1 from ⟨b1, rfl, h2, h3⟩)
    clear h2 h3
    go_wp2
    go_ret
    exact HF.out
  · have h1i : ((c : Nat) : Int) ≠ 42 := by omega
    by_cases h2 : c = 43
    · subst h2
      have HS := Lib.hid (star_any r nb w hn (by omega))
      have HN := Lib.hid hn
      clear hn h1 h1i
      go_enter Tryz.func132, Tryz.ntmps132
      go_wp2_with fail
      refine HS.out.mono ?_
      rintro e w1 ⟨b1, rfl, h2, h3⟩
      have hb : Below w1.heap.size w1 (w1.alloc (.cells #[ptr nb, ptr b1] 68)) := (Below.refl _ w1).alloc (Nat.le_refl _) _
      have hnds := nds_two ((HN.out.keep (KN.of_below h3)).keep (KN.of_below hb)) (h2.keep (KN.of_below hb))
      have HC := Lib.hid (cat_any 2 2 (some ⟨w1.heap.size, 0, none⟩) [nb, b1] [r, .star r] _ (row_two w1 nb b1) hnds rfl (by omega) (by omega) (by omega) (fun x hx => by
        rcases List.mem_cons.1 hx with rfl | hx
        · omega
        · rw [List.mem_singleton.1 hx]; show 1 + r.size ≤ _; omega))
      have HB := Lib.hid (below_tr h3 hb h3.size)
      clear h2 h3 hb hnds
      go_wp2_with fail
      refine HC.out.mono ?_
      rintro e w2 hn2
      obtain ⟨b2, rfl, h2, h3⟩ := hn2
      have HF := Lib.hid (show NewNd (repF r 43) w (.returned (ptr b2)) w2 from NewNd.wider ⟨b2, rfl, h2, h3⟩ HB.out)
      clear h2 h3
      go_wp2
      go_ret
      exact HF.out
    · have h2i : ((c : Nat) : Int) ≠ 43 := by omega
      have hrep : repF r c = .or r .empty := by unfold repF; rw [if_neg h1, if_neg h2]
      rw [hrep]
      have HN := Lib.hid hn
      clear hn hrep
      go_enter Tryz.func132, Tryz.ntmps132
      go_wp2_with fail
      refine (empty_any w).mono ?_
      rintro e w1 ⟨b1, rfl, h2, h3⟩
      have hb : Below w1.heap.size w1 (w1.alloc (.cells #[ptr nb, ptr b1] 68)) := (Below.refl _ w1).alloc (Nat.le_refl _) _
      have hnds := nds_two ((HN.out.keep (KN.of_below h3)).keep (KN.of_below hb)) (h2.keep (KN.of_below hb))
      have HC := Lib.hid (or_any 2 2 (some ⟨w1.heap.size, 0, none⟩) [nb, b1] [r, .empty] _ (row_two w1 nb b1) hnds rfl (by omega) (by omega) (by omega) (fun x hx => by
        rcases List.mem_cons.1 hx with rfl | hx
        · omega
        · rw [List.mem_singleton.1 hx]; show 1 ≤ _; omega))
      have HB := Lib.hid (below_tr h3 hb h3.size)
      clear h2 h3 hb hnds
      go_wp2_with fail
      refine HC.out.mono ?_
      rintro e w2 hn2
      obtain ⟨b2, rfl, h2, h3⟩ := hn2
      have HF := Lib.hid (show NewNd (.or r .empty) w (.returned (ptr b2)) w2 from NewNd.wider ⟨b2, rfl, h2, h3⟩ HB.out)
      clear h2 h3
      go_wp2
      go_ret
      exact HF.out
end Go.Proofs.YtejdfpieblkapaaGreatDoor
