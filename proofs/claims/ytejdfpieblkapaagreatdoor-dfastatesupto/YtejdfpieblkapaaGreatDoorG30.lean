/- Lists of numbers; the example of layer 6. -/
import Derived.Test.YtejdfpieblkapaaGreatDoorG27
import Derived.Test.YtejdfpieblkapaaGreatDoorM30
import Derived.Test.YtejdfpieblkapaaGreatDoorM54
import Derived.RegionTactic
namespace Go.Proofs.YtejdfpieblkapaaGreatDoor
open Go.RowKit Go.Shelf

def NsAt (w : World) (A : Option Addr) (l : List Nat) : Prop := l = [] ∨ ∃ g cs t fz, A = some ⟨g, 0, none⟩ ∧ w.heap[g]? = some (.cells cs t fz) ∧ ∀ (j q : Nat), l[j]? = some q → cs[j]? = some (pv q)
theorem NsAt.get {w : World} {A : Option Addr} {l : List Nat} (h : NsAt w A l) {j q : Nat} (hj : l[j]? = some q) : ∃ g, A = some ⟨g, 0, none⟩ ∧ w.cell? ⟨g, j, none⟩ = some (pv q) := by
 rcases h with rfl | ⟨g, cs, t, fz, rfl, hg, hc⟩
 ·simp at hj
 ·exact ⟨g, rfl, by rw [Lib.cell_of_heap hg]; exact hc j q hj⟩
theorem NsAt.below {w w' : World} {A : Option Addr} {l : List Nat} (h : NsAt w A l) (hb : Below w.heap.size w w') : NsAt w' A l := by
 rcases h with rfl | ⟨g, cs, t, fz, rfl, hg, hc⟩
 ·exact .inl rfl
 ·exact .inr ⟨g, cs, t, fz, rfl, (hb.block _ (lt_of_heap hg)).trans hg, hc⟩
theorem own_ns {w : World} {B n c : Nat} {A : Option Addr} {l : List Nat} (h : w.ownsRow B 3 1 (.slice A n c) n (l.map pv)) : NsAt w A l := by
 rcases h.2 with ⟨hv, hn⟩ | ⟨g, cap, cur, hv, hb, hh, r1, r2, r3, r4⟩
 ·have := h.1
  simp at this
  exact .inl (List.length_eq_zero_iff.1 (by omega))
 ·injection hv with e1 e2 e3
  refine .inr ⟨g, cur, 3, _, e1, hh, fun j q hj => ?_⟩
  have hu : (l.map pv)[j]? = some (pv q) := by rw [List.getElem?_map, hj]; rfl
  rw [← r4] at hu
  have hlt : j < n * 1 := by
   have := (List.getElem?_eq_some_iff.1 hu).1
   rw [List.length_take] at this
   omega
  rw [List.getElem?_take_of_lt hlt] at hu
  simpa using hu
theorem take_snoc_eq {l l' : List Nat} {k a b : Nat} (ha : l[k]? = some a) (hb : l'[k]? = some b) (h : l.take k = l'.take k) (hab : a = b) : l.take (k + 1) = l'.take (k + 1) := by
 rw [List.take_add_one, List.take_add_one, ha, hb, h, hab]
theorem pv_bne {a b : Nat} (h : a ≠ b) : ((a : Int) == (b : Int)) = false := by
 rw [beq_eq_false_iff_ne]; omega

end Go.Proofs.YtejdfpieblkapaaGreatDoor

/- The example of layer 6. -/
namespace Go.Proofs.YtejdfpieblkapaaGreatDoor
open Go.RowKit Go.Shelf

def awA : Rx := .cat (.set ⟨0, 8589934592, 0, 0⟩) (.star (.set ⟨0, 17179869184, 0, 0⟩))
theorem TabH.below {w w' : World} (h : TabH w) (hb : Below w.heap.size w w') : TabH w' := h.keep (I := fun _ => True) (KeepI.below hb) trivial

end Go.Proofs.YtejdfpieblkapaaGreatDoor

/- Rule; all calls of no machine; New of nothing. -/
namespace Go.Proofs.YtejdfpieblkapaaGreatDoor
open Go.RowKit Go.Shelf

set_option maxRecDepth 100000 in
set_option maxHeartbeats 1000000 in
theorem ruleOf_any (w : World) (B mb : Nat) (rs : List Rx) (h : MsAt w B mb rs) (p R : Nat) (hp : p < cntS rs) (hR : (rlS rs 0)[p]? = some R) :
  Calls Tryz.prog 21 #[ptr mb, .int .i64 p] w fun e w' => e = .returned (.int .i64 R) ∧ w' = w := by
 have hc2 : cntS rs ≤ 2000 := by obtain ⟨p, X, sv, rv, f, fl, ll, h1, h2, h3, h4⟩ := h; exact h4
 obtain ⟨As, Ar, A, Af, Al, Ae, cs, cr, c, cf, cl, ce, hm, _, hr, _⟩ := h.cells
 have hcr : cntS rs ≤ cr := by obtain ⟨_, _, e, h1, _⟩ := own_form hr; injection e with _ _ e; omega
 obtain ⟨g, rfl, hcl, _, _⟩ := own_cells hr (by omega)
 have hci := hcl p (pv R) (by rw [List.getElem?_map, hR]; rfl)
 have c1 : w.cell? ⟨mb, 1, none⟩ = some (.slice (some ⟨g, 0, none⟩) (cntS rs) cr) := by rw [Lib.cell_of_heap hm]; rfl
 have HPY := Lib.hid (position_yes w mb As (cntS rs) cs p (by rw [Lib.cell_of_heap hm]; rfl) hp (by omega))
 obtain ⟨N, hN⟩ : ∃ N, N = cntS rs := ⟨_, rfl⟩
 rw [← hN] at c1 hp hc2
 have hpi : (p : Int) < N := by omega
 have hp0 : (0 : Int) ≤ p := by omega
 clear h hm hr hcl hN hR
 go_enter Tryz.func21, Tryz.ntmps21
 go_wp2_with fail
 refine HPY.out.mono ?_
 rintro e w1 ⟨rfl, rfl⟩
 go_wp2
 go_ret
 exact ⟨rfl, rfl⟩
end Go.Proofs.YtejdfpieblkapaaGreatDoor

/- None of a set. -/
namespace Go.Proofs.YtejdfpieblkapaaGreatDoor
open Go.RowKit Go.Shelf

theorem all_zero_take {ws : List Nat} {k : Nat} (h : ∀ x ∈ ws.take k, x = 0) {x : Nat} (hx : ws[k]? = some x) (h0 : x = 0) : ∀ y ∈ ws.take (k + 1), y = 0 := by
 rw [List.take_add_one, hx]
 intro y hy
 rcases List.mem_append.1 hy with hy | hy
 ·exact h y hy
 ·simp at hy; rw [hy, h0]
set_option maxRecDepth 100000 in
set_option maxHeartbeats 1000000 in
theorem none_any (w : World) (g nw : Nat) (ws : List Nat) (h : BsAt w g ws) (hl : ws.length = nw) (hn : nw ≤ 1000000) :
  Calls Tryz.prog 86 #[bsV g nw] w fun e w' => e = .returned (.bool (ws.all (· == 0))) ∧ w' = w := by
 have HH := Lib.hid h; have HL := Lib.hid hl
 obtain ⟨β, hβ⟩ : ∃ β, β = ws.all (· == 0) := ⟨_, rfl⟩
 rw [← hβ]
 have HB := Lib.hid hβ
 clear h hl hβ
 go_enter Tryz.func86, Tryz.ntmps86
 go_wp2_with fail
 go_loopw [7] (fun i wr => ∃ k : Nat, k ≤ nw ∧ i = .int .i64 k ∧ Hid (∀ x ∈ ws.take k, x = 0) ∧ wr = w) (fun i _ => nw - (intOf i).toNat)
 case atStart => exact ⟨0, Nat.zero_le _, rfl, (show ∀ x ∈ ws.take 0, x = 0 from fun x hx => by simp at hx), rfl⟩
 case round =>
  obtain ⟨k, hk, rfl, HZ, rfl⟩ := hrel
  by_cases hlt : k < nw
  ·have hki : (k : Int) < nw := by omega
   have hk0 : (0 : Int) ≤ k := by omega
   have hkw : k < ws.length := by rw [HL.out]; exact hlt
   obtain ⟨c1, _⟩ := HH.out.cell hkw
   obtain ⟨x, hx⟩ : ∃ x, x = ws[k] := ⟨_, rfl⟩
   rw [← hx] at c1
   have HX := Lib.hid (show ws[k]? = some x by rw [hx]; exact List.getElem?_eq_getElem hkw)
   clear hx hkw
   by_cases h0 : x = 0
   ·have HZ2 := Lib.hid (all_zero_take HZ.out HX.out h0)
    subst h0
    go_wp2
    go_roundw
    case rel => exact ⟨k + 1, by omega, by go_num, HZ2, trivial⟩
    case measure => simp [intOf]; omega
   ·have hne : ((x : Int) == 0) = false := by simp; omega
    have hne2 : ¬ (x : Int) = 0 := by omega
    have hf : β = false := by
     rw [HB.out, List.all_eq_false]
     exact ⟨x, List.mem_of_getElem? HX.out, by simpa using h0⟩
    subst hf
    go_wp2
    go_ret
    exact ⟨rfl, rfl⟩
  ·obtain rfl : k = nw := by omega
   have hf : β = true := by
    rw [HB.out, List.all_eq_true]
    intro x hx
    have := HZ.out x (by rw [List.take_of_length_le (by rw [HL.out]; exact Nat.le_refl _)]; exact hx)
    simp [this]
   subst hf
   go_wp2
   go_ret
   exact ⟨rfl, rfl⟩
end Go.Proofs.YtejdfpieblkapaaGreatDoor

/- Rows of expressions, one by one; the positions that a text leads to: mathematics. -/
namespace Go.Proofs.YtejdfpieblkapaaGreatDoor
open Go.RowKit Go.Shelf

theorem cntS_at {rs : List Rx} {i : Nat} {r : Rx} (h : rs[i]? = some r) : cntS (rs.take i) + r.cnt ≤ cntS rs := by
 rw [← cntS_take h]; exact cntS_take_le rs _
theorem fstS_at {rs : List Rx} : ∀ {i n : Nat} {r : Rx}, rs[i]? = some r → (fstS rs n)[i]? = some (r.fst (n + cntS (rs.take i))) := by
 induction rs with
 | nil => intro i n r h; simp at h
 | cons a rs ih =>
  intro i n r h
  cases i with
  | zero => simp at h; subst h; simp [fstS, cntS]
  | succ i =>
   simp only [List.getElem?_cons_succ] at h
   simp only [fstS, List.getElem?_cons_succ, List.take_succ_cons]
   rw [ih h, cntS_cons, Nat.add_assoc]
theorem lstS_at {rs : List Rx} : ∀ {i n : Nat} {r : Rx}, rs[i]? = some r → (lstS rs n)[i]? = some (r.lst (n + cntS (rs.take i))) := by
 induction rs with
 | nil => intro i n r h; simp at h
 | cons a rs ih =>
  intro i n r h
  cases i with
  | zero => simp at h; subst h; simp [lstS, cntS]
  | succ i =>
   simp only [List.getElem?_cons_succ] at h
   simp only [lstS, List.getElem?_cons_succ, List.take_succ_cons]
   rw [ih h, cntS_cons, Nat.add_assoc]
theorem stsS_at {rs : List Rx} : ∀ {i j : Nat} {r : Rx} {s : Ws}, rs[i]? = some r → r.sts[j]? = some s → (stsS rs)[cntS (rs.take i) + j]? = some s := by
 induction rs with
 | nil => intro i j r s h; simp at h
 | cons a rs ih =>
  intro i j r s h hs
  cases i with
  | zero =>
   simp at h; subst h
   have h0 : cntS ((a :: rs).take 0) + j = j := by simp [cntS]
   rw [h0]
   simp only [stsS, List.flatMap_cons]
   rw [List.getElem?_append_left (List.getElem?_eq_some_iff.1 hs).1]
   exact hs
  | succ i =>
   simp only [List.getElem?_cons_succ] at h
   rw [List.take_succ_cons, cntS_cons]
   have := ih h hs
   simp only [stsS, List.flatMap_cons] at this ⊢
   rw [List.getElem?_append_right (by rw [a.sts_len]; omega), a.sts_len, show a.cnt + cntS (rs.take i) + j - a.cnt = cntS (rs.take i) + j by omega]
   exact this
theorem folS_low : ∀ {rs : List Rx} {n x y : Nat}, folS rs n x y = true → n ≤ x ∧ n ≤ y
 | [], n, x, y, h => by simp [folS] at h
 | r :: rs, n, x, y, h => by
  simp only [folS, Bool.or_eq_true] at h
  rcases h with h | h
  ·have := r.fol_up n x y h; omega
  ·have := folS_low h; omega
theorem folS_at {rs : List Rx} : ∀ {i n : Nat} {r : Rx} {x y : Nat}, rs[i]? = some r → n + cntS (rs.take i) ≤ x → x < n + cntS (rs.take i) + r.cnt → (folS rs n x y = true ↔ r.fol (n + cntS (rs.take i)) x y = true) := by
 induction rs with
 | nil => intro i n r x y h; simp at h
 | cons a rs ih =>
  intro i n r x y h h1 h2
  cases i with
  | zero =>
   simp at h; subst h
   have h0 : n + cntS ((a :: rs).take 0) = n := by simp [cntS]
   rw [h0] at h1 h2 ⊢
   simp only [folS, Bool.or_eq_true]
   constructor
   ·rintro (h | h)
    ·exact h
    ·have := folS_low h; omega
   ·exact .inl
  | succ i =>
   simp only [List.getElem?_cons_succ] at h
   rw [List.take_succ_cons, cntS_cons, ← Nat.add_assoc] at h1 h2 ⊢
   simp only [folS, Bool.or_eq_true]
   rw [← ih h h1 h2]
   constructor
   ·rintro (h | h)
    ·have := a.fol_up n x y h; omega
    ·exact h
   ·exact .inr
theorem whose {rs : List Rx} : ∀ {p : Nat}, p < cntS rs → ∃ i r, rs[i]? = some r ∧ cntS (rs.take i) ≤ p ∧ p < cntS (rs.take i) + r.cnt := by
 induction rs with
 | nil => intro p h; simp [cntS] at h
 | cons a rs ih =>
  intro p h
  rw [cntS_cons] at h
  by_cases hp : p < a.cnt
  ·exact ⟨0, a, rfl, by simp [cntS], by simp [cntS]; exact hp⟩
  ·obtain ⟨i, r, h1, h2, h3⟩ := ih (p := p - a.cnt) (by omega)
   refine ⟨i + 1, r, h1, ?_, ?_⟩ <;> rw [List.take_succ_cons, cntS_cons] <;> omega
theorem rlS_at {rs : List Rx} : ∀ {i k p : Nat} {r : Rx}, rs[i]? = some r → cntS (rs.take i) ≤ p → p < cntS (rs.take i) + r.cnt → (rlS rs k)[p]? = some (k + i) := by
 induction rs with
 | nil => intro i k p r h; simp at h
 | cons a rs ih =>
  intro i k p r h h1 h2
  cases i with
  | zero =>
   simp at h; subst h
   have h0 : cntS ((a :: rs).take 0) = 0 := by simp [cntS]
   rw [h0] at h1 h2
   simp only [rlS]
   rw [List.getElem?_append_left (by simp; omega), List.getElem?_replicate, if_pos (by omega)]; rfl
  | succ i =>
   simp only [List.getElem?_cons_succ] at h
   rw [List.take_succ_cons, cntS_cons] at h1 h2
   simp only [rlS]
   rw [List.getElem?_append_right (by simp; omega), List.length_replicate, ih (k := k + 1) h (by omega) (by omega)]
   congr 1; omega
def hsS (rs : List Rx) (p : Nat) (c : UInt8) : Bool := match (stsS rs)[p]? with
 | some s => s.has c
 | none => false
theorem lab_at {rs : List Rx} {i : Nat} {r : Rx} (h : rs[i]? = some r) : Lab r (cntS (rs.take i)) (hsS rs) := fun j s hj c => by
 unfold hsS; rw [stsS_at h hj]
def FsS (rs : List Rx) (p : Nat) : Prop := ∃ (i : Nat) (l : List Nat), (fstS rs 0)[i]? = some l ∧ p ∈ l
def RcS (rs : List Rx) (u : List UInt8) (q : Nat) : Prop := ∃ c v p, u = c :: v ∧ FsS rs p ∧ hsS rs p c = true ∧ Wk (folS rs 0) (hsS rs) p v q

theorem Wk.unsnoc {f : Nat → Nat → Bool} {hs : Nat → UInt8 → Bool} : ∀ {u : List UInt8} {p t : Nat} {c : UInt8}, Wk f hs p (u ++ [c]) t → ∃ q, Wk f hs p u q ∧ f q t = true ∧ hs t c = true
 | [], p, t, c, h => by
  cases h with
  | cons _ q _ _ _ h1 h2 h3 =>
   cases h3 with
   | nil => exact ⟨p, .nil p, h1, h2⟩
 | a :: u, p, t, c, h => by
  cases h with
  | cons _ q _ _ _ h1 h2 h3 =>
   obtain ⟨x, h4, h5⟩ := Wk.unsnoc h3
   exact ⟨x, .cons p q x a u h1 h2 h4, h5⟩
theorem RcS.one (rs : List Rx) (c : UInt8) (q : Nat) : RcS rs [c] q ↔ FsS rs q ∧ hsS rs q c = true := by
 constructor
 ·rintro ⟨c', v, p, hu, h1, h2, h3⟩
  injection hu with e1 e2
  subst e1; subst e2
  cases h3
  exact ⟨h1, h2⟩
 ·rintro ⟨h1, h2⟩
  exact ⟨c, [], q, rfl, h1, h2, .nil q⟩
theorem RcS.step (rs : List Rx) (u : List UInt8) (hu : u ≠ []) (c : UInt8) (q : Nat) : RcS rs (u ++ [c]) q ↔ (∃ p, RcS rs u p ∧ folS rs 0 p q = true) ∧ hsS rs q c = true := by
 obtain ⟨a, v, rfl⟩ := List.exists_cons_of_ne_nil hu
 constructor
 ·rintro ⟨c', v', p, e, h1, h2, h3⟩
  rw [List.cons_append] at e
  injection e with e1 e2
  subst e1; subst e2
  obtain ⟨x, h4, h5, h6⟩ := h3.unsnoc
  exact ⟨⟨x, ⟨_, _, p, rfl, h1, h2, h4⟩, h5⟩, h6⟩
 ·rintro ⟨⟨x, ⟨c', v', p, e, h1, h2, h3⟩, h5⟩, h6⟩
  injection e with e1 e2
  subst e1; subst e2
  exact ⟨a, v ++ [c], p, rfl, h1, h2, h3.snoc h5 h6⟩
theorem FsS.lt {rs : List Rx} {p : Nat} (h : FsS rs p) : p < cntS rs := by
 obtain ⟨i, l, h1, h2⟩ := h
 have hi := (fstS_get h1).1
 have h3 := fstS_at (n := 0) (List.getElem?_eq_getElem hi)
 rw [h1] at h3
 injection h3 with h3
 rw [h3] at h2
 have := (rs[i].fst_up _).2 p h2
 have := cntS_at (List.getElem?_eq_getElem hi)
 omega
theorem folS_lt {rs : List Rx} {x y : Nat} (hx : x < cntS rs) (h : folS rs 0 x y = true) : y < cntS rs := by
 obtain ⟨i, r, h1, h2, h3⟩ := whose hx
 rw [folS_at h1 (by omega) (by omega)] at h
 have := (r.fol_up _ x y h).2
 have := cntS_at h1
 omega
theorem run_iff {rs : List Rx} {i : Nat} {r : Rx} (h : rs[i]? = some r) (u : List UInt8) (hu : u ≠ []) : (∃ q ∈ r.lst (cntS (rs.take i)), RcS rs u q) ↔ r.L u := by
 have hN := cntS_at h
 rw [← acc_iff r (cntS (rs.take i)) (hsS rs) (lab_at h) u]
 generalize hn : cntS (rs.take i) = n at hN ⊢
 have hfol : ∀ {x y : Nat}, n ≤ x → x < n + r.cnt → (folS rs 0 x y = true ↔ r.fol n x y = true) := fun {x y} h1 h2 => by
  have := folS_at (n := 0) (y := y) (x := x) h (by omega) (by omega)
  rw [Nat.zero_add, hn] at this
  exact this
 constructor
 ·rintro ⟨q, hq, c, v, p, rfl, hp, hc, hw⟩
  have hql := (r.lst_up n).2 q hq
  obtain ⟨j, l, h1, h2⟩ := hp
  have hj := (fstS_get h1).1
  have hrj := List.getElem?_eq_getElem hj
  have h3 := fstS_at (n := 0) hrj
  rw [h1] at h3
  injection h3 with h3
  rw [h3, Nat.zero_add] at h2
  have hpj := (rs[j].fst_up _).2 p h2
  have hst := Wk.stay (f := folS rs 0) (I := fun x => cntS (rs.take j) ≤ x ∧ x < cntS (rs.take j) + rs[j].cnt) (fun x y hx hxy => by
   refine ⟨hxy, ?_⟩
   rw [folS_at hrj (by omega) (by omega), Nat.zero_add] at hxy
   exact (rs[j].fol_up _ x y hxy).2) hw hpj
  have e1 := rlS_at (k := 0) hrj hst.2.1 hst.2.2
  have e2 := rlS_at (k := 0) (p := q) h (by omega) (by omega)
  have e3 : j = i := by rw [e1] at e2; injection e2 with e2; omega
  subst e3
  rw [hrj] at h
  injection h with h
  rw [h, hn] at h2
  have hpi := (r.fst_up n).2 p h2
  have hw2 := Wk.stay (f := r.fol n) (I := fun x => n ≤ x ∧ x < n + r.cnt) (fun x y hx hxy => by
   rw [hfol hx.1 hx.2] at hxy
   exact ⟨hxy, (r.fol_up n x y hxy).2⟩) hw hpi
  exact .inr ⟨c, v, p, q, rfl, h2, hc, hw2.1, hq⟩
 ·rintro (⟨h1, _⟩ | ⟨c, v, p, q, rfl, hp, hc, hw, hq⟩)
  ·exact absurd h1 hu
  ·refine ⟨q, hq, c, v, p, rfl, ⟨i, _, fstS_at (n := 0) h, by rw [Nat.zero_add, hn]; exact hp⟩, hc, hw.mono (fun x y hxy => ?_)⟩
   have := r.fol_up n x y hxy
   rw [hfol this.1.1 this.1.2]
   exact hxy
theorem fstS_own {rs : List Rx} {i : Nat} {l : List Nat} (h : (fstS rs 0)[i]? = some l) : ∀ q ∈ l, q < cntS rs ∧ (rlS rs 0)[q]? = some i := fun q hq => by
 have hi := (fstS_get h).1
 have h1 := List.getElem?_eq_getElem hi
 have h3 := fstS_at (n := 0) h1
 rw [h] at h3
 injection h3 with h3
 rw [h3] at hq
 have h4 := (rs[i].fst_up _).2 q hq
 have h5 := cntS_at h1
 refine ⟨by omega, ?_⟩
 rw [rlS_at h1 (by omega) (by omega), Nat.zero_add]
theorem lstS_own {rs : List Rx} {i : Nat} {l : List Nat} (h : (lstS rs 0)[i]? = some l) : ∀ q ∈ l, q < cntS rs ∧ (rlS rs 0)[q]? = some i := fun q hq => by
 have hi := (lstS_get h).1
 have h1 := List.getElem?_eq_getElem hi
 have h3 := lstS_at (n := 0) h1
 rw [h] at h3
 injection h3 with h3
 rw [h3] at hq
 have h4 := (rs[i].lst_up _).2 q hq
 have h5 := cntS_at h1
 refine ⟨by omega, ?_⟩
 rw [rlS_at h1 (by omega) (by omega), Nat.zero_add]
end Go.Proofs.YtejdfpieblkapaaGreatDoor
