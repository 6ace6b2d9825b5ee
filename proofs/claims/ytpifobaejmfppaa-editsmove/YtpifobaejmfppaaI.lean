/- Where a place moves to, by right edits; what edits cost. -/
import Derived.Test.YtpifobaejmfppaaG
namespace Go.Proofs.Ytpifobaejmfppaa
open Go.RowKit

theorem right_filter {n m : Int} (p : Ed → Bool) : ∀ {l : List Ed} {a : Int}, rightB a n l = true → (∀ e ∈ l, p e = true → e.t ≤ m) → rightB a m (l.filter p) = true
  | [], _, _, _ => rfl
  | e :: r, a, h, hm => by
    rw [rightB_cons, Bool.and_eq_true, Ed.okB_iff] at h
    obtain ⟨⟨h1, h2, h3⟩, h4⟩ := h
    rw [List.filter_cons]
    cases hp : p e with
    | true =>
      rw [if_pos rfl, rightB_cons, Bool.and_eq_true, Ed.okB_iff]
      exact ⟨⟨h1, h2, hm e (List.mem_cons_self ..) hp⟩, right_filter p h4 fun x hx => hm x (List.mem_cons_of_mem _ hx)⟩
    | false =>
      rw [if_neg (by simp)]
      exact right_filter p (rightB_weak (show a ≤ e.t by omega) h4) fun x hx => hm x (List.mem_cons_of_mem _ hx)

theorem tot_filter (p : Ed → Bool) : ∀ (l : List Ed), tot (l.filter p) ≤ tot l
  | [] => by simp [tot]
  | e :: r => by
    have ih := tot_filter p r
    rw [List.filter_cons]
    split <;> simp only [tot] <;> omega

theorem fold2 (k : Int) : ∀ (l : List Ed) (p q : Int), (l.foldl (mvStep k) (p, q)).2 = q + sumGr (l.filter fun e => decide (e.t ≤ k))
  | [], p, q => by simp [sumGr]
  | e :: r, p, q => by
    rw [List.foldl_cons, List.filter_cons]
    by_cases h1 : e.t ≤ k
    · rw [mvStep, if_pos h1, fold2 k r, if_pos (by simpa using h1), sumGr]; omega
    · have h2 : decide (e.t ≤ k) = false := by simpa using h1
      rw [h2, if_neg (by simp), mvStep, if_neg h1]
      split <;> rw [fold2 k r]

theorem fold1_stay (k : Int) : ∀ (l : List Ed) (p q : Int), (∀ e ∈ l, k < e.t → p ≤ e.f) → (l.foldl (mvStep k) (p, q)).1 = p
  | [], _, _, _ => rfl
  | e :: r, p, q, h => by
    rw [List.foldl_cons]
    have hr := fun x hx => h x (List.mem_cons_of_mem _ hx)
    by_cases h1 : e.t ≤ k
    · rw [mvStep, if_pos h1]; exact fold1_stay k r p _ hr
    · have := h e (List.mem_cons_self ..) (by omega)
      rw [mvStep, if_neg h1, if_neg (by show ¬ e.f < p; omega)]; exact fold1_stay k r p q hr

theorem right_ge {n : Int} {l : List Ed} {a : Int} (h : rightB a n l = true) : ∀ e ∈ l, a ≤ e.f ∧ e.f ≤ e.t := by
  intro e he
  obtain ⟨k, hk⟩ := List.mem_iff_getElem?.1 he
  obtain ⟨q1, q2, _, _⟩ := right_at h hk
  exact ⟨q1, q2⟩

theorem fold1_in (k n : Int) : ∀ (l : List Ed) (a q : Int) (i : Nat) (e : Ed), rightB a n l = true → l[i]? = some e → e.f < k → k < e.t → (l.foldl (mvStep k) (k, q)).1 = e.f
  | [], _, _, _, _, _, h, _, _ => by simp at h
  | x :: r, a, q, i, e, hr, he, h1, h2 => by
    rw [rightB_cons, Bool.and_eq_true, Ed.okB_iff] at hr
    obtain ⟨⟨r1, r2, r3⟩, r4⟩ := hr
    rw [List.foldl_cons]
    cases i with
    | zero =>
      simp at he; subst he
      rw [mvStep, if_neg (by omega), if_pos h1]
      refine fold1_stay k r x.f q fun y hy _ => ?_
      have := right_ge r4 y hy
      omega
    | succ i =>
      have he' : r[i]? = some e := by simpa using he
      have := right_ge r4 e (List.mem_of_getElem? he')
      rw [mvStep, if_pos (by omega)]
      exact fold1_in k n r x.t _ i e r4 he' h1 h2

theorem fold1_none (k : Int) (l : List Ed) (q : Int) (h : ∀ e ∈ l, ¬ (e.f < k ∧ k < e.t)) : (l.foldl (mvStep k) (k, q)).1 = k :=
  fold1_stay k l k q fun e he ht => by have := h e he; omega

/-- Bytes taken away and put. -/
def Ed.cost (e : Ed) : Int := (e.t - e.f) + e.s.size
def costs : List Ed → Int
  | [] => 0
  | e :: r => e.cost + costs r
theorem costs_append : ∀ (a b : List Ed), costs (a ++ b) = costs a + costs b
  | [], b => by simp [costs]
  | e :: r, b => by rw [List.cons_append, costs, costs, costs_append r b]; omega
theorem costs_snoc {l : List Ed} {k : Nat} {e : Ed} (h : l[k]? = some e) : costs (l.take (k + 1)) = costs (l.take k) + e.cost := by
  rw [take_snoc_of h, costs_append]; simp [costs]

set_option maxRecDepth 100000 in
set_option maxHeartbeats 1000000 in
theorem cost_any (A : Option Addr) (len cap : Nat) (l : List Ed) (w : World) (hlen : l.length = len) (_hl : len ≤ cap) (_hcap : cap ≤ 9223372036854775807) (hsm : len ≤ 1048576) (hE : EdsAt w w.heap.size A l)
    (hM : ∀ e ∈ l, e.Mod) :
    Calls Try.prog 25 #[.slice A len cap] w fun e w' => e = .returned (.int .i64 (costs l)) ∧ Below w.heap.size w w' := by
  have HL := Lib.hid hlen; clear hlen
  have HM := Lib.hid hM; clear hM
  go_enter Try.func25, Try.ntmps25
  go_wp2_with fail
  go_loopw [3, 8] (fun a i wr => ∃ (k : Nat) (x : Int), k ≤ len ∧ i = .int .i64 k ∧ a = .int .i64 x ∧ Hid (x = costs (l.take k)) ∧ 0 ≤ x ∧ x ≤ (k * 2199023255552 : Int) ∧ Below w.heap.size w wr) (fun _ i _ => len - (intOf i).toNat)
  case atStart => exact ⟨0, 0, Nat.zero_le _, rfl, rfl, rfl, by omega, by omega, Below.refl _ _⟩
  case round =>
    obtain ⟨k, x, hk, rfl, rfl, HX, x0, x1, hb⟩ := hrel
    by_cases hlt : k < len
    · obtain ⟨e, he⟩ := get_some l k (by rw [HL.out]; exact hlt)
      have HS := Lib.hid (costs_snoc he)
      obtain ⟨m1, m2, m3, m4⟩ := HM.out e (List.mem_of_getElem? he)
      obtain ⟨ad, rfl, hab, c0, c1, c2⟩ := (hE.below hb) k e he
      clear he
      have hzb := hb.size
      go_wp2_with fail
      have p1 : IntKind.i64.wrap (e.t - e.f + (e.s.size : Int)) = e.t - e.f + (e.s.size : Int) := IntWalk.i64_in _ (by omega)
      have p2 : IntKind.i64.wrap (x + (e.t - e.f + (e.s.size : Int))) = x + (e.t - e.f + (e.s.size : Int)) := IntWalk.i64_in _ (by omega)
      go_region_held3 (fun w' => w'.cell? ⟨wr.heap.size, 0, none⟩ = some (.int .i64 e.f) ∧ w'.cell? ⟨wr.heap.size, 1, none⟩ = some (.int .i64 e.t) ∧ w'.cell? ⟨wr.heap.size, 2, none⟩ = some (.string e.s))
        (first
          | go_keep
          | (go_split_ands; refine ⟨?_, ?_, ?_⟩ <;> (rw [hb5.cell (by simp)]; go_keep)))
        (first
          | (go_at_call 54; refine (taken_any _ _ _ _ m1 m2 m3).mono ?_; rintro e' w5 ⟨rfl, hb5⟩))
      have hb5' : Below w.heap.size w w5 := below_tr (hb.alloc hzb _).drew hb5 (by simp; omega)
      clear p1 p2 hb5
      go_wp2
      go_roundw
      case rel => exact ⟨k + 1, x + e.cost, by omega, by go_num, by unfold Ed.cost; go_num, by show _ = _; rw [HS.out, ← HX.out], by unfold Ed.cost; omega, by unfold Ed.cost; omega, hb5'⟩
      case measure => simp [intOf]; omega
    · have he : x = costs l := by rw [HX.out, List.take_of_length_le (by rw [HL.out]; omega)]
      have HF := Lib.hid he; clear he
      go_wp2
      go_ret
      exact ⟨ret_int HF.out, hb⟩
end Go.Proofs.Ytpifobaejmfppaa
