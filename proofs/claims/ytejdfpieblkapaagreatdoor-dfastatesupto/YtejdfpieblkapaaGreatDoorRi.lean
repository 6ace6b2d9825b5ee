/- A region that draws its order, by an invariant over what was done. -/
import Derived.Test.YtejdfpieblkapaaGreatDoorM1
import Derived.Deep.RegionHeld
import Derived.OrdersIn
namespace Go.Proofs.YtejdfpieblkapaaGreatDoor
open Go.RowKit

section
variable {P : Program} {ops : Array Oper} {Q : Exit → Act → World → Prop} {md : Region.Mode}

def upd (L : Nat → Bool) (i : Nat) (j : Nat) : Bool := if j = i then true else L j
theorem upd_self (L : Nat → Bool) (i : Nat) : upd L i i = true := if_pos rfl
theorem upd_ne (L : Nat → Bool) {i j : Nat} (h : j ≠ i) : upd L i j = L j := if_neg h
def lft : Nat → (Nat → Bool) → Nat
 | 0, _ => 0
 | n + 1, L => lft n L + if L n = true then 0 else 1
theorem lft_upd (L : Nat → Bool) (i : Nat) (hL : L i = false) : ∀ n, lft n (upd L i) + (if i < n then 1 else 0) = lft n L
 | 0 => by simp [lft]
 | n + 1 => by
  have ih := lft_upd L i hL n
  simp only [lft]
  by_cases e : n = i
  ·subst e
   rw [upd_self, hL]
   simp at ih ⊢
   omega
  ·rw [upd_ne L e]
   by_cases h : i < n
   ·rw [if_pos h] at ih; rw [if_pos (show i < n + 1 by omega)]; omega
   ·rw [if_neg h] at ih; rw [if_neg (show ¬ i < n + 1 by omega)]; omega
theorem lft_zero (L : Nat → Bool) : ∀ n, lft n L = 0 → ∀ j, j < n → L j = true
 | 0, _, j, h => by omega
 | n + 1, h, j, hj => by
  simp only [lft] at h
  by_cases e : j = n
  ·subst e
   by_cases hL : L j = true
   ·exact hL
   ·rw [if_neg hL] at h; omega
  ·exact lft_zero L n (by omega) j (by omega)
def fwd (md : Region.Mode) (ops : Array Oper) : Bool := (List.range ops.size).all fun i => match ops[i]? with
 | some o => o.after.toList.all fun e => !Region.binds md e || decide (e.on < i)
 | none => true
theorem fwd_spec (h : fwd md ops = true) {i : Nat} {o : Oper} (ho : ops[i]? = some o) : ∀ e ∈ o.after, Region.binds md e = true → e.on < i := fun e he hb => by
 have hi := (Array.getElem?_eq_some_iff.1 ho).1
 have h1 := List.all_eq_true.1 h i (List.mem_range.2 hi)
 rw [ho] at h1
 have h2 := List.all_eq_true.1 h1 e (by simpa using he)
 rw [hb] at h2
 simpa using h2
theorem wpAny_inv (I : (Nat → Bool) → Act → World → Prop) (hf : fwd md ops = true)
  (step : ∀ (i : Nat) (o : Oper) (L : Nat → Bool) (a : Act) (w : World), ops[i]? = some o → L i = false → (∀ e ∈ o.after, Region.binds md e = true → L e.on = true) → I L a w →
   ∀ K' : Act → World → Prop, Shut (∀ a' w', I (upd L i) a' w' → K' a' w') → if Region.wanted o (yielded ops a.tmps) = true then Oper.wp P o a w K' Q else K' (a.put o.dst undef) w)
  (fin : ∀ L a w, I L a w → (∀ j, j < ops.size → L j = true) → Q .normal a w) :
  ∀ (fuel : Nat) (listed : Array Bool) (a : Act) (w : World), lft ops.size (fun j => listed.getD j true) ≤ fuel → I (fun j => listed.getD j true) a w → wpAny P md ops Q fuel listed a w := by
 have all_of : ∀ (listed : Array Bool), Region.ready md ops listed = [] → ∀ j, j < ops.size → listed.getD j true = true := fun listed hr j => by
  induction j using Nat.strongRecOn with
  | _ j ih =>
   intro hj
   by_cases hL : listed.getD j true = true
   ·exact hL
   ·exfalso
    have hL2 : listed.getD j true = false := by simpa using hL
    have ho : ops[j]? = some ops[j] := Array.getElem?_eq_getElem hj
    have hm : j ∈ Region.ready md ops listed := mem_ready.2 ⟨hL2, _, ho, fun e he hb => by
     have h1 := fwd_spec hf ho e he hb
     have h2 := ih e.on h1 (by omega)
     rcases Nat.lt_or_ge e.on listed.size with h3 | h3
     ·simp [h3] at h2 ⊢; exact h2
     ·exfalso
      simp [Array.getD, Nat.not_lt.2 (show listed.size ≤ j by omega)] at hL2⟩
    rw [hr] at hm; cases hm
 intro fuel
 induction fuel with
 | zero =>
  intro listed a w h0 hI
  have h1 := lft_zero _ _ (Nat.le_zero.1 h0)
  have hr : Region.ready md ops listed = [] := by
   rw [List.eq_nil_iff_forall_not_mem]
   intro j hj
   obtain ⟨h2, o, ho, _⟩ := mem_ready.1 hj
   have h3 := h1 j (Array.getElem?_eq_some_iff.1 ho).1
   have h4 : listed.getD j true = true := h3
   rw [h2] at h4; cases h4
  exact ⟨hr, fin _ a w hI h1⟩
 | succ fuel ih =>
  intro listed a w h0 hI
  refine ⟨fun hr => fin _ a w hI (all_of listed hr), fun i hi => ?_⟩
  obtain ⟨hL, o, ho, haft⟩ := mem_ready.1 hi
  have hin := (Array.getElem?_eq_some_iff.1 ho).1
  have he : (fun j => (listed.setIfInBounds i true).getD j true) = upd (fun j => listed.getD j true) i := by
   funext j
   unfold upd
   by_cases e : j = i
   ·subst e
    rw [if_pos rfl]
    rcases Nat.lt_or_ge j listed.size with h | h
    ·simp [h]
    ·simp [Array.getD, Nat.not_lt.2 h]
   ·rw [if_neg e, getD_set_ne true (fun h => e h.symm)]
  refine wpOp_step ho (fun K' hK => step i o _ a w ho hL (fun e h1 h2 => ?_) hI K' (fun a' w' h => hK a' w' (ih _ a' w' ?_ ?_)))
  ·have h3 := haft e h1 h2
   rcases Nat.lt_or_ge e.on listed.size with h | h
   ·simp [h] at h3 ⊢; exact h3
   ·simp [Array.getD, Nat.not_lt.2 h] at h3
  ·have h3 := lft_upd (fun j => listed.getD j true) i hL ops.size
   rw [if_pos hin] at h3
   rw [he]; omega
  ·rw [he]; exact h
theorem lft_none : ∀ n, lft n (fun j => (Array.replicate n false).getD j true) ≤ n := fun n => by
 have : ∀ (L : Nat → Bool) m, lft m L ≤ m := fun L m => by
  induction m with
  | zero => exact Nat.le_refl _
  | succ m ih => simp only [lft]; split <;> omega
 exact this _ n
theorem wp_region_inv {id : Nat} {a : Act} {w : World} (I : (Nat → Bool) → Act → World → Prop) (hm : P.follows .mixedOrders = true) (hf : fwd .any ops = true)
  (step : ∀ (i : Nat) (o : Oper) (L : Nat → Bool) (a : Act) (w : World), ops[i]? = some o → L i = false → (∀ e ∈ o.after, Region.binds .any e = true → L e.on = true) → I L a w →
   ∀ K' : Act → World → Prop, Shut (∀ a' w', I (upd L i) a' w' → K' a' w') → if Region.wanted o (yielded ops a.tmps) = true then Oper.wp P o a w K' Q else K' (a.put o.dst undef) w)
  (fin : ∀ L a w, I L a w → (∀ j, j < ops.size → L j = true) → Q .normal a w)
  (h0 : ∀ L, (∀ j, j < ops.size → L j = false) → I L a w.drew) : (Code.region id ops true).wp P Q a w :=
 wp_region_any hm (wpAny_inv I hf step fin ops.size _ a _ (lft_none _) (h0 _ fun j hj => by simp [hj]))
end
end Go.Proofs.YtejdfpieblkapaaGreatDoor

/- A region that draws its order, by an invariant over what was done, inside a fence. -/
namespace Go.Proofs.YtejdfpieblkapaaGreatDoor
open Go.RowKit

section
variable {F : Fence} {n : Nat} {P : Program} {ops : Array Oper} {Q : Exit → Act → World → Prop} {md : Region.Mode}
theorem wpAnyIn_inv (I : (Nat → Bool) → Act → World → Prop) (hf : fwd md ops = true)
  (step : ∀ (i : Nat) (o : Oper) (L : Nat → Bool) (a : Act) (w : World), ops[i]? = some o → L i = false → (∀ e ∈ o.after, Region.binds md e = true → L e.on = true) → I L a w →
   ∀ K' : Act → World → Prop, Shut (∀ a' w', I (upd L i) a' w' → K' a' w') → if Region.wanted o (yielded ops a.tmps) = true then Oper.wpIn F n P o a w K' Q else (∀ f, o.about P w a.eval = some f → F.fn f) ∧ K' (a.put o.dst undef) w)
  (fin : ∀ L a w, I L a w → (∀ j, j < ops.size → L j = true) → Q .normal a w) :
  ∀ (fuel : Nat) (listed : Array Bool) (a : Act) (w : World), lft ops.size (fun j => listed.getD j true) ≤ fuel → I (fun j => listed.getD j true) a w → wpAnyIn F n P md ops Q fuel listed a w := by
 have all_of : ∀ (listed : Array Bool), Region.ready md ops listed = [] → ∀ j, j < ops.size → listed.getD j true = true := fun listed hr j => by
  induction j using Nat.strongRecOn with
  | _ j ih =>
   intro hj
   by_cases hL : listed.getD j true = true
   ·exact hL
   ·exfalso
    have hL2 : listed.getD j true = false := by simpa using hL
    have ho : ops[j]? = some ops[j] := Array.getElem?_eq_getElem hj
    have hm : j ∈ Region.ready md ops listed := mem_ready.2 ⟨hL2, _, ho, fun e he hb => by
     have h1 := fwd_spec hf ho e he hb
     have h2 := ih e.on h1 (by omega)
     rcases Nat.lt_or_ge e.on listed.size with h3 | h3
     ·simp [h3] at h2 ⊢; exact h2
     ·exfalso
      simp [Array.getD, Nat.not_lt.2 (show listed.size ≤ j by omega)] at hL2⟩
    rw [hr] at hm; cases hm
 intro fuel
 induction fuel with
 | zero =>
  intro listed a w h0 hI
  have h1 := lft_zero _ _ (Nat.le_zero.1 h0)
  have hr : Region.ready md ops listed = [] := by
   rw [List.eq_nil_iff_forall_not_mem]
   intro j hj
   obtain ⟨h2, o, ho, _⟩ := mem_ready.1 hj
   have h3 := h1 j (Array.getElem?_eq_some_iff.1 ho).1
   have h4 : listed.getD j true = true := h3
   rw [h2] at h4; cases h4
  exact ⟨hr, fin _ a w hI h1⟩
 | succ fuel ih =>
  intro listed a w h0 hI
  refine ⟨fun hr => fin _ a w hI (all_of listed hr), fun i hi => ?_⟩
  obtain ⟨hL, o, ho, haft⟩ := mem_ready.1 hi
  have hin := (Array.getElem?_eq_some_iff.1 ho).1
  have he : (fun j => (listed.setIfInBounds i true).getD j true) = upd (fun j => listed.getD j true) i := by
   funext j
   unfold upd
   by_cases e : j = i
   ·subst e
    rw [if_pos rfl]
    rcases Nat.lt_or_ge j listed.size with h | h
    ·simp [h]
    ·simp [Array.getD, Nat.not_lt.2 h]
   ·rw [if_neg e, getD_set_ne true (fun h => e h.symm)]
  refine (?_ : ∀ (hst : _), wpOpIn F n P ops Q i (wpAnyIn F n P md ops Q fuel (listed.setIfInBounds i true)) a w) (step i o _ a w ho hL (fun e h1 h2 => ?_) hI (wpAnyIn F n P md ops Q fuel (listed.setIfInBounds i true)) (fun a' w' h => ih _ a' w' ?_ ?_))
  ·intro hst
   unfold wpOpIn
   rw [ho]
   exact hst
  ·have h3 := haft e h1 h2
   rcases Nat.lt_or_ge e.on listed.size with h | h
   ·simp [h] at h3 ⊢; exact h3
   ·simp [Array.getD, Nat.not_lt.2 h] at h3
  ·have h3 := lft_upd (fun j => listed.getD j true) i hL ops.size
   rw [if_pos hin] at h3
   rw [he]; omega
  ·rw [he]; exact h
theorem wpIn_region_inv {id : Nat} {a : Act} {w : World} (I : (Nat → Bool) → Act → World → Prop) (hm : P.follows .mixedOrders = true) (hf : fwd .any ops = true)
  (step : ∀ (i : Nat) (o : Oper) (L : Nat → Bool) (a : Act) (w : World), ops[i]? = some o → L i = false → (∀ e ∈ o.after, Region.binds .any e = true → L e.on = true) → I L a w →
   ∀ K' : Act → World → Prop, Shut (∀ a' w', I (upd L i) a' w' → K' a' w') → if Region.wanted o (yielded ops a.tmps) = true then Oper.wpIn F n P o a w K' Q else (∀ f, o.about P w a.eval = some f → F.fn f) ∧ K' (a.put o.dst undef) w)
  (fin : ∀ L a w, I L a w → (∀ j, j < ops.size → L j = true) → Q .normal a w)
  (h0 : ∀ L, (∀ j, j < ops.size → L j = false) → I L a w.drew) : (Code.region id ops true).wpIn F n P Q a w :=
 wpIn_region_any hm (wpAnyIn_inv I hf step fin ops.size _ a _ (lft_none _) (h0 _ fun j hj => by simp [hj]))
end
end Go.Proofs.YtejdfpieblkapaaGreatDoor
