/- Has of sets and machines; clear; a machine or none. -/
import Derived.Test.YtejdfpieblkapaaGreatDoorG30
import Derived.Test.YtejdfpieblkapaaGreatDoorRi
import Derived.Lib.SliceRun
namespace Go.Proofs.YtejdfpieblkapaaGreatDoor
open Go.RowKit Go.Shelf

theorem and1z (x : Nat) : bits .and .u64 (x : Int) 1 = ((x % 2 : Nat) : Int) := by
  have h1 : (BitVec.ofInt 64 (x : Int)).toNat = x % 2 ^ 64 := by
    rw [BitVec.ofInt_natCast, BitVec.toNat_ofNat]
  have h3 : (BitVec.ofInt 64 (1 : Int)).toNat = 1 := by decide
  show IntKind.u64.wrap ((BitVec.ofInt 64 (x : Int) &&& BitVec.ofInt 64 (1 : Int)).toNat : Int) = _
  rw [BitVec.toNat_and, h1, h3, Nat.and_two_pow_sub_one_eq_mod _ 1]
  rw [IntKind.wrap_u64]
  omega
theorem bit_eq (W j : Nat) : bits .and .u64 ((W : Int) / 2 ^ j) 1 = ((W / 2 ^ j % 2 : Nat) : Int) := by
  rw [← and1z]; norm_cast
theorem bit_int (W j : Nat) : ((W : Int) / 2 ^ j % 2 == 1) = decide (W / 2 ^ j % 2 = 1) := by
  have h : (W : Int) / 2 ^ j % 2 = ((W / 2 ^ j % 2 : Nat) : Int) := by norm_cast
  rw [h]
  rcases (show W / 2 ^ j % 2 = 0 ∨ W / 2 ^ j % 2 = 1 by omega) with e | e <;> rw [e] <;> rfl
theorem bt_div (ws : List Nat) (p : Nat) (h : p / 64 < ws.length) : bt ws p = decide (ws[p / 64] / 2 ^ (p % 64) % 2 = 1) := by
  unfold bt
  rw [List.getD_eq_getElem?_getD, List.getElem?_eq_getElem h, Option.getD_some, Nat.testBit_eq_decide_div_mod_eq]
set_option maxRecDepth 100000 in
set_option maxHeartbeats 1000000 in
/-- Has, of a set. -/
theorem bs_has (w : World) (g p n : Nat) (ws : List Nat) (h : BsAt w g ws) (hn : n = ws.length) (hp : p / 64 < ws.length) (hp2 : p < 1000000) :
    Calls Tryz.prog 56 #[bsV g n, .int .i64 p] w fun e w' => e = .returned (.bool (bt ws p)) ∧ w' = w := by
  obtain ⟨c1, f1⟩ := h.cell hp
  rw [bt_div ws p hp]
  have hn1 : p / 64 < n := by omega
  generalize hWe : ws[p / 64] = W at c1 ⊢
  clear h hWe hp hn
  have d1 := tdiv64 p
  have d2 := tmod64 p
  have hb := bit_eq W (p % 64)
  obtain ⟨β, hβ⟩ : ∃ β, β = decide (W / 2 ^ (p % 64) % 2 = 1) := ⟨_, rfl⟩
  rw [← hβ]
  have HB := Lib.hid hβ
  clear hβ
  go_enter Tryz.func56, Tryz.ntmps56
  go_wp2_with fail
  go_ret
  exact ⟨by rw [HB.out, ← bit_int W (p % 64)]; rfl, rfl⟩
theorem flatW_get {l : List Ws} {s : Ws} : ∀ {p j : Nat} {W : Nat}, l[p]? = some s → j < 4 → W = s.word j → (flatW l)[p * 4 + j]? = some (.int .u64 W) := by
  induction l with
  | nil => intro p j W h; simp at h
  | cons a l ih =>
    intro p j W h hj hW
    have e : flatW (a :: l) = [.int .u64 a.a, .int .u64 a.b, .int .u64 a.c, .int .u64 a.d] ++ flatW l := rfl
    rw [e]
    cases p with
    | zero =>
      simp at h; subst h
      rcases (show j = 0 ∨ j = 1 ∨ j = 2 ∨ j = 3 by omega) with rfl | rfl | rfl | rfl <;> (subst hW; rfl)
    | succ p =>
      simp only [List.getElem?_cons_succ] at h
      rw [List.getElem?_append_right (by simp; omega)]
      have := ih h hj hW
      rw [show (p + 1) * 4 + j - [Value.int .u64 (a.a : Int), .int .u64 a.b, .int .u64 a.c, .int .u64 a.d].length = p * 4 + j by simp; omega]
      exact this
set_option maxRecDepth 100000 in
set_option maxHeartbeats 2000000 in
theorem has_yes (w : World) (B mb : Nat) (rs : List Rx) (h : MsAt w B mb rs) (p : Nat) (hp : p < cntS rs) (c : UInt8) :
    Calls Tryz.prog 22 #[ptr mb, .int .i64 p, .int .u8 c.toNat] w fun e w' => e = .returned (.bool (hsS rs p c)) ∧ w' = w := by
  have hc2 : cntS rs ≤ 2000 := by obtain ⟨p, X, sv, rv, f, fl, ll, h1, h2, h3, h4⟩ := h; exact h4
  obtain ⟨As, Ar, A, Af, Al, Ae, cs, cr, c', cf, cl, ce, hm, hs, _⟩ := h.cells
  obtain ⟨s, hse⟩ : ∃ s, (stsS rs)[p]? = some s := ⟨_, List.getElem?_eq_getElem (by rw [stsS_len]; exact hp)⟩
  have HPY := Lib.hid (position_yes w mb As (cntS rs) cs p (by rw [Lib.cell_of_heap hm]; rfl) hp (by omega))
  have hsh : hsS rs p c = s.has c := by unfold hsS; rw [hse]
  rw [hsh]
  obtain ⟨nc, hnc⟩ : ∃ nc, nc = c.toNat := ⟨_, rfl⟩
  have hnc2 : nc < 256 := by rw [hnc]; exact c.toNat_lt
  have hj : nc / 64 < 4 := by omega
  obtain ⟨W, hW⟩ : ∃ W, W = s.word (nc / 64) := ⟨_, rfl⟩
  have hcell : ∃ g, As = some ⟨g, 0, none⟩ ∧ w.cell? ⟨g, p * 4 + nc / 64, none⟩ = some (.int .u64 W) := by
    rcases hs.2 with ⟨hv, hn⟩ | ⟨g, cap, cur, hv, hb, hh, r1, r2, r3, r4⟩
    · omega
    · injection hv with e1 e2 e3
      refine ⟨g, e1, ?_⟩
      rw [Lib.cell_of_heap hh]
      have hlt : p * 4 + nc / 64 < cntS rs * 4 := by omega
      have hget : (flatW (stsS rs))[p * 4 + nc / 64]? = some (.int .u64 W) := by
        exact flatW_get hse hj hW
      rw [← r4, List.getElem?_take_of_lt hlt] at hget
      simpa using hget
  obtain ⟨g, rfl, hcl⟩ := hcell
  have c0 : w.cell? ⟨mb, 0, none⟩ = some (.slice (some ⟨g, 0, none⟩) (cntS rs) cs) := by rw [Lib.cell_of_heap hm]; rfl
  have hβ : s.has c = decide (W / 2 ^ (nc % 64) % 2 = 1) := by
    unfold Ws.has
    rw [← hnc, hW]
    by_cases e : s.word (nc / 64) / 2 ^ (nc % 64) % 2 = 1 <;> simp [e]
  obtain ⟨β, hβ2⟩ : ∃ β, β = s.has c := ⟨_, rfl⟩
  rw [← hβ2, ← hnc]
  rw [← hβ2] at hβ
  have HB := Lib.hid hβ
  have hb := bit_eq W (nc % 64)
  obtain ⟨N, hN⟩ : ∃ N, N = cntS rs := ⟨_, rfl⟩
  rw [← hN] at c0 hp hc2
  have hpi : (p : Int) < N := by omega
  have hp0 : (0 : Int) ≤ p := by omega
  clear h hm hs hN hW hnc hsh hse hβ hβ2
  go_enter Tryz.func22, Tryz.ntmps22
  go_wp2_with fail
  refine HPY.out.mono ?_
  rintro e w1 ⟨rfl, rfl⟩
  go_wp2_with fail
  go_ret
  exact ⟨by rw [HB.out, ← bit_int W (nc % 64)]; rfl, rfl⟩
end Go.Proofs.YtejdfpieblkapaaGreatDoor

/- reach: where the last byte of a text may have been read; its beginning. -/
namespace Go.Proofs.YtejdfpieblkapaaGreatDoor
open Go.RowKit Go.Shelf

/-- A machine of some expressions, or none. -/
def MI (w : World) (m : Value) (rs : List Rx) : Prop := (m = .pointer none ∧ rs = []) ∨ ∃ B mb, m = ptr mb ∧ MsAt w B mb rs
theorem MI.below {w w' : World} {m : Value} {rs : List Rx} (h : MI w m rs) (hb : Below w.heap.size w w') : MI w' m rs := by
  rcases h with h | ⟨B, mb, h1, h2⟩
  · exact .inl h
  · exact .inr ⟨B, mb, h1, h2.below hb⟩
theorem MI.cnt {w : World} {m : Value} {rs : List Rx} (h : MI w m rs) : cntS rs ≤ 2000 := by
  rcases h with ⟨_, rfl⟩ | ⟨B, mb, rfl, p, X, sv, rv, f, fl, ll, h1, h2, h3, h4⟩
  · simp [cntS]
  · exact h4
theorem len_mi (w : World) (m : Value) (rs : List Rx) (h : MI w m rs) : Calls Tryz.prog 17 #[m] w fun e w' => e = .returned (.int .i64 (cntS rs : Nat)) ∧ w' = w := by
  rcases h with ⟨rfl, rfl⟩ | ⟨B, mb, rfl, h⟩
  · exact len_nil w
  · obtain ⟨As, Ar, A, Af, Al, Ae, cs, cr, c, cf, cl, ce, hm, _⟩ := h.cells
    exact len_any w mb As _ cs (by rw [Lib.cell_of_heap hm]; rfl)
theorem rules_mi (w : World) (m : Value) (rs : List Rx) (h : MI w m rs) : Calls Tryz.prog 18 #[m] w fun e w' => e = .returned (.int .i64 (rs.length : Nat)) ∧ w' = w := by
  rcases h with ⟨rfl, rfl⟩ | ⟨B, mb, rfl, h⟩
  · exact rules_nil w
  · obtain ⟨As, Ar, A, Af, Al, Ae, cs, cr, c, cf, cl, ce, hm, _⟩ := h.cells
    exact rules_any w mb Ae _ ce (by rw [Lib.cell_of_heap hm]; rfl)

/-- A set of no numbers, made here. -/
def Fb (nw B : Nat) (w : World) (v : Value) : Prop := ∃ g, v = bsV g nw ∧ BsAt w g (List.replicate nw 0) ∧ B ≤ g
/-- A variable's box, made here. -/
def Fx (B : Nat) (w : World) (v x : Value) : Prop := ∃ b, v = ptr b ∧ B ≤ b ∧ w.heap[b]? = some (.cells #[x] 87 (0, 0))
theorem Fb.below {nw B : Nat} {w w' : World} {v : Value} (h : Fb nw B w v) (hb : Below w.heap.size w w') : Fb nw B w' v := by
  obtain ⟨g, h1, h2, h3⟩ := h
  exact ⟨g, h1, h2.below hb, h3⟩
theorem Fx.below {B : Nat} {w w' : World} {v x : Value} (h : Fx B w v x) (hb : Below w.heap.size w w') : Fx B w' v x := by
  obtain ⟨g, h1, h2, h3⟩ := h
  exact ⟨g, h1, h2, (hb.block _ (lt_of_heap h3)).trans h3⟩
structure R1 (w1 : World) (B N nw : Nat) (m : Value) (L : Nat → Bool) (w : World) (v14 v15 v16 v17 v18 v19 v5 v6 x5 x6 : Value) : Prop where
  bl : Below B w1 w
  h0 : L 0 = true → v14 = m
  h1 : L 1 = true → v15 = .int .i64 N
  h3 : L 3 = true → v17 = m
  h4 : L 4 = true → v18 = .int .i64 N
  h2 : L 2 = true → Fb nw B w v16
  h5 : L 5 = true → Fb nw B w v19
  d : L 2 = true → L 5 = true → v16 ≠ v19
  h6 : L 6 = true → Fx B w v5 x5
  h7 : L 7 = true → Fx B w v6 x6
  e : L 6 = true → L 7 = true → v5 ≠ v6
  c8 : L 8 = true → L 2 = true ∧ L 6 = true
  c9 : L 9 = true → L 5 = true ∧ L 7 = true
  h8 : L 8 = true → x5 = v16
  h9 : L 9 = true → x6 = v19
section
variable {w1 w w' : World} {B N nw : Nat} {m : Value} {L : Nat → Bool} {v14 v15 v16 v17 v18 v19 v5 v6 x5 x6 : Value}
theorem R1.below (h : R1 w1 B N nw m L w v14 v15 v16 v17 v18 v19 v5 v6 x5 x6) (hB : B ≤ w.heap.size) (hb : Below w.heap.size w w') : R1 w1 B N nw m L w' v14 v15 v16 v17 v18 v19 v5 v6 x5 x6 :=
  ⟨h.bl.trans (hb.mono hB), h.h0, h.h1, h.h3, h.h4, fun x => (h.h2 x).below hb, fun x => (h.h5 x).below hb, h.d, fun x => (h.h6 x).below hb, fun x => (h.h7 x).below hb, h.e, h.c8, h.c9, h.h8, h.h9⟩
theorem R1.s0 (h : R1 w1 B N nw m L w v14 v15 v16 v17 v18 v19 v5 v6 x5 x6) : R1 w1 B N nw m (upd L 0) w m v15 v16 v17 v18 v19 v5 v6 x5 x6 := ⟨h.bl, fun _ => rfl, h.h1, h.h3, h.h4, h.h2, h.h5, h.d, h.h6, h.h7, h.e, h.c8, h.c9, h.h8, h.h9⟩
theorem R1.s1 (h : R1 w1 B N nw m L w v14 v15 v16 v17 v18 v19 v5 v6 x5 x6) : R1 w1 B N nw m (upd L 1) w v14 (.int .i64 N) v16 v17 v18 v19 v5 v6 x5 x6 := ⟨h.bl, h.h0, fun _ => rfl, h.h3, h.h4, h.h2, h.h5, h.d, h.h6, h.h7, h.e, h.c8, h.c9, h.h8, h.h9⟩
theorem R1.s3 (h : R1 w1 B N nw m L w v14 v15 v16 v17 v18 v19 v5 v6 x5 x6) : R1 w1 B N nw m (upd L 3) w v14 v15 v16 m v18 v19 v5 v6 x5 x6 := ⟨h.bl, h.h0, h.h1, fun _ => rfl, h.h4, h.h2, h.h5, h.d, h.h6, h.h7, h.e, h.c8, h.c9, h.h8, h.h9⟩
theorem R1.s4 (h : R1 w1 B N nw m L w v14 v15 v16 v17 v18 v19 v5 v6 x5 x6) : R1 w1 B N nw m (upd L 4) w v14 v15 v16 v17 (.int .i64 N) v19 v5 v6 x5 x6 := ⟨h.bl, h.h0, h.h1, h.h3, fun _ => rfl, h.h2, h.h5, h.d, h.h6, h.h7, h.e, h.c8, h.c9, h.h8, h.h9⟩
theorem Fb.new {g : Nat} (hB : B ≤ w.heap.size) (hg : g = w.heap.size) (hb : BsAt w' g (List.replicate nw 0)) : Fb nw B w' (bsV g nw) := ⟨g, rfl, hb, by omega⟩
theorem Fb.lt {v : Value} (h : Fb nw B w v) : v ≠ bsV w.heap.size nw := by
  obtain ⟨g, rfl, h1, _⟩ := h
  have := lt_of_heap h1.1
  intro e
  injection e with e; injection e with e; injection e with e
  omega
theorem Fx.lt {v x : Value} (h : Fx B w v x) : v ≠ ptr w.heap.size := by
  obtain ⟨g, rfl, _, h1⟩ := h
  have := lt_of_heap h1
  intro e
  injection e with e; injection e with e; injection e with e
  omega
theorem R1.s2 (h : R1 w1 B N nw m L w v14 v15 v16 v17 v18 v19 v5 v6 x5 x6) (hL : L 2 = false) (hB : B ≤ w.heap.size) (hz : BsAt w' w.heap.size (List.replicate nw 0)) (hb : Below w.heap.size w w') : R1 w1 B N nw m (upd L 2) w' v14 v15 (bsV w.heap.size nw) v17 v18 v19 v5 v6 x5 x6 := by
  have h' := h.below hB hb
  have n8 : L 8 = true → False := fun e => by have := (h.c8 e).1; rw [hL] at this; cases this
  exact ⟨h'.bl, h'.h0, h'.h1, h'.h3, h'.h4, fun _ => .new hB rfl hz, h'.h5, fun _ h5 => ((h.h5 h5).lt).symm, h'.h6, h'.h7, h'.e, fun e => (n8 e).elim, h'.c9, fun e => (n8 e).elim, h'.h9⟩
theorem R1.s5 (h : R1 w1 B N nw m L w v14 v15 v16 v17 v18 v19 v5 v6 x5 x6) (hL : L 5 = false) (hB : B ≤ w.heap.size) (hz : BsAt w' w.heap.size (List.replicate nw 0)) (hb : Below w.heap.size w w') : R1 w1 B N nw m (upd L 5) w' v14 v15 v16 v17 v18 (bsV w.heap.size nw) v5 v6 x5 x6 := by
  have h' := h.below hB hb
  have n9 : L 9 = true → False := fun e => by have := (h.c9 e).1; rw [hL] at this; cases this
  exact ⟨h'.bl, h'.h0, h'.h1, h'.h3, h'.h4, h'.h2, fun _ => .new hB rfl hz, fun h2 _ => (h.h2 h2).lt, h'.h6, h'.h7, h'.e, h'.c8, fun e => (n9 e).elim, h'.h8, fun e => (n9 e).elim⟩
theorem R1.s6 (h : R1 w1 B N nw m L w v14 v15 v16 v17 v18 v19 v5 v6 x5 x6) (hL : L 6 = false) (hB : B ≤ w.heap.size) (x : Value) : R1 w1 B N nw m (upd L 6) (w.alloc (.cells #[x] 87)) v14 v15 v16 v17 v18 v19 (ptr w.heap.size) v6 x x6 := by
  have h' := h.below hB ((Below.refl _ w).alloc (Nat.le_refl _) (.cells #[x] 87))
  have n8 : L 8 = true → False := fun e => by have := (h.c8 e).2; rw [hL] at this; cases this
  exact ⟨h'.bl, h'.h0, h'.h1, h'.h3, h'.h4, h'.h2, h'.h5, h'.d, fun _ => ⟨_, rfl, hB, heap_alloc_new w _⟩, h'.h7, fun _ h7 => ((h.h7 h7).lt).symm, fun e => (n8 e).elim, h'.c9, fun e => (n8 e).elim, h'.h9⟩
theorem R1.s7 (h : R1 w1 B N nw m L w v14 v15 v16 v17 v18 v19 v5 v6 x5 x6) (hL : L 7 = false) (hB : B ≤ w.heap.size) (x : Value) : R1 w1 B N nw m (upd L 7) (w.alloc (.cells #[x] 87)) v14 v15 v16 v17 v18 v19 v5 (ptr w.heap.size) x5 x := by
  have h' := h.below hB ((Below.refl _ w).alloc (Nat.le_refl _) (.cells #[x] 87))
  have n9 : L 9 = true → False := fun e => by have := (h.c9 e).2; rw [hL] at this; cases this
  exact ⟨h'.bl, h'.h0, h'.h1, h'.h3, h'.h4, h'.h2, h'.h5, h'.d, h'.h6, fun _ => ⟨_, rfl, hB, heap_alloc_new w _⟩, fun h6 _ => (h.h6 h6).lt, h'.c8, fun e => (n9 e).elim, h'.h8, fun e => (n9 e).elim⟩
theorem Fb.set {v : Value} {b : Nat} {u x : Value} (h : Fb nw B w v) (hb : w.heap[b]? = some (.cells #[x] 87 (0, 0))) : Fb nw B (w.setCell ⟨b, 0, none⟩ u) v := by
  obtain ⟨g, h1, h2, h3⟩ := h
  refine ⟨g, h1, h2.keep (Kb.setCell w ⟨b, 0, none⟩ u) (fun e => ?_), h3⟩
  have e' : g = b := e
  have := h2.1
  rw [e', hb] at this
  injection this with this
  injection this with _ h4 _
  exact absurd h4 (by decide)
theorem Fx.set {v y : Value} {b : Nat} {u : Value} (h : Fx B w v y) (hb : v ≠ ptr b) : Fx B (w.setCell ⟨b, 0, none⟩ u) v y := by
  obtain ⟨g, rfl, h2, h3⟩ := h
  exact ⟨g, rfl, h2, ((Kb.setCell w ⟨b, 0, none⟩ u).block g (lt_of_heap h3) (fun e => hb (by rw [show g = b from e]))).trans h3⟩
theorem R1.s8 {b : Nat} (h : R1 w1 B N nw m L w v14 v15 v16 v17 v18 v19 (ptr b) v6 x5 x6) (h2 : L 2 = true) (h6 : L 6 = true) (h7 : L 7 = true) (hB : B ≤ b) (hb : w.heap[b]? = some (.cells #[x5] 87 (0, 0))) : R1 w1 B N nw m (upd L 8) (w.setCell ⟨b, 0, none⟩ v16) v14 v15 v16 v17 v18 v19 (ptr b) v6 v16 x6 :=
  ⟨h.bl.trans ((Kb.setCell w ⟨b, 0, none⟩ v16).below (by have := lt_of_heap hb; omega) (fun i e => by rw [show i = b from e]; exact hB)), h.h0, h.h1, h.h3, h.h4, fun x => (h.h2 x).set hb, fun x => (h.h5 x).set hb, h.d, fun _ => ⟨b, rfl, hB, by rw [set_heap _ _ 0 _ _ _ _ hb]; rfl⟩, fun x => (h.h7 x).set (h.e h6 h7).symm, h.e, fun _ => ⟨h2, h6⟩, h.c9, fun _ => rfl, h.h9⟩
theorem R1.s9 {b : Nat} (h : R1 w1 B N nw m L w v14 v15 v16 v17 v18 v19 v5 (ptr b) x5 x6) (h5 : L 5 = true) (h6 : L 6 = true) (h7 : L 7 = true) (hB : B ≤ b) (hb : w.heap[b]? = some (.cells #[x6] 87 (0, 0))) : R1 w1 B N nw m (upd L 9) (w.setCell ⟨b, 0, none⟩ v19) v14 v15 v16 v17 v18 v19 v5 (ptr b) x5 v19 :=
  ⟨h.bl.trans ((Kb.setCell w ⟨b, 0, none⟩ v19).below (by have := lt_of_heap hb; omega) (fun i e => by rw [show i = b from e]; exact hB)), h.h0, h.h1, h.h3, h.h4, fun x => (h.h2 x).set hb, fun x => (h.h5 x).set hb, h.d, fun x => (h.h6 x).set (h.e h6 h7), fun _ => ⟨b, rfl, hB, by rw [set_heap _ _ 0 _ _ _ _ hb]; rfl⟩, h.e, h.c8, fun _ => ⟨h5, h7⟩, h.h8, fun _ => rfl⟩
end
end Go.Proofs.YtejdfpieblkapaaGreatDoor
