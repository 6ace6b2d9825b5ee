/- Has of sets and machines; clear; a machine or none. -/
import Derived.Test.YtejdfpieblkapaaGreatDoorG30
import Derived.Test.YtejdfpieblkapaaGreatDoorRi
import Derived.Lib.SliceRun
namespace Go.Proofs.YtejdfpieblkapaaGreatDoor
open Go.RowKit Go.Shelf

theorem and1z (x : Nat) : bits .and .u64 (x : Int) 1 = ((x % 2 : Nat) : Int) := by
 have h1 : (BitVec.ofInt 64 (x : Int)).toNat = x % 2 ^ 64 := by
  rw [BitVec.ofInt_natCast, BitVec.toNat_ofNat]
 have h3 : (BitVec.ofInt 64 (1 : Int)).toNat = 1 := by decide
 show IntKind.u64.wrap ((BitVec.ofInt 64 (x : Int) &&& BitVec.ofInt 64 (1 : Int)).toNat : Int) = _
 rw [BitVec.toNat_and, h1, h3, Nat.and_two_pow_sub_one_eq_mod _ 1]
 rw [IntKind.wrap_u64]
 omega
theorem bit_eq (W j : Nat) : bits .and .u64 ((W : Int) / 2 ^ j) 1 = ((W / 2 ^ j % 2 : Nat) : Int) := by
 rw [← and1z]; norm_cast
theorem bit_int (W j : Nat) : ((W : Int) / 2 ^ j % 2 == 1) = decide (W / 2 ^ j % 2 = 1) := by
 have h : (W : Int) / 2 ^ j % 2 = ((W / 2 ^ j % 2 : Nat) : Int) := by norm_cast
 rw [h]
 rcases (show W / 2 ^ j % 2 = 0 ∨ W / 2 ^ j % 2 = 1 by omega) with e | e <;> rw [e] <;> rfl
theorem bt_div (ws : List Nat) (p : Nat) (h : p / 64 < ws.length) : bt ws p = decide (ws[p / 64] / 2 ^ (p % 64) % 2 = 1) := by
 unfold bt
 rw [List.getD_eq_getElem?_getD, List.getElem?_eq_getElem h, Option.getD_some, Nat.testBit_eq_decide_div_mod_eq]
set_option maxRecDepth 100000 in
set_option maxHeartbeats 1000000 in
theorem bs_has (w : World) (g p n : Nat) (ws : List Nat) (h : BsAt w g ws) (hn : n = ws.length) (hp : p / 64 < ws.length) (hp2 : p < 1000000) :
  Calls Tryz.prog 56 #[bsV g n, .int .i64 p] w fun e w' => e = .returned (.bool (bt ws p)) ∧ w' = w := by
 obtain ⟨c1, f1⟩ := h.cell hp
 rw [bt_div ws p hp]
 have hn1 : p / 64 < n := by omega
 generalize hWe : ws[p / 64] = W at c1 ⊢
 clear h hWe hp hn
 have d1 := tdiv64 p
 have d2 := tmod64 p
 have hb := bit_eq W (p % 64)
 obtain ⟨β, hβ⟩ : ∃ β, β = decide (W / 2 ^ (p % 64) % 2 = 1) := ⟨_, rfl⟩
 rw [← hβ]
 have HB := Lib.hid hβ
 clear hβ
 go_enter Tryz.func56, Tryz.ntmps56
 go_wp2_with fail
 go_ret
 exact ⟨by rw [HB.out, ← bit_int W (p % 64)]; rfl, rfl⟩
theorem flatW_get {l : List Ws} {s : Ws} : ∀ {p j : Nat} {W : Nat}, l[p]? = some s → j < 4 → W = s.word j → (flatW l)[p * 4 + j]? = some (.int .u64 W) := by
 induction l with
 | nil => intro p j W h; simp at h
 | cons a l ih =>
  intro p j W h hj hW
  have e : flatW (a :: l) = [.int .u64 a.a, .int .u64 a.b, .int .u64 a.c, .int .u64 a.d] ++ flatW l := rfl
  rw [e]
  cases p with
  | zero =>
   simp at h; subst h
   rcases (show j = 0 ∨ j = 1 ∨ j = 2 ∨ j = 3 by omega) with rfl | rfl | rfl | rfl <;> (subst hW; rfl)
  | succ p =>
   simp only [List.getElem?_cons_succ] at h
   rw [List.getElem?_append_right (by simp; omega)]
   have := ih h hj hW
   rw [show (p + 1) * 4 + j - [Value.int .u64 (a.a : Int), .int .u64 a.b, .int .u64 a.c, .int .u64 a.d].length = p * 4 + j by simp; omega]
   exact this
set_option maxRecDepth 100000 in
set_option maxHeartbeats 2000000 in
theorem has_yes (w : World) (B mb : Nat) (rs : List Rx) (h : MsAt w B mb rs) (p : Nat) (hp : p < cntS rs) (c : UInt8) :
  Calls Tryz.prog 22 #[ptr mb, .int .i64 p, .int .u8 c.toNat] w fun e w' => e = .returned (.bool (hsS rs p c)) ∧ w' = w := by
 have hc2 : cntS rs ≤ 2000 := by obtain ⟨p, X, sv, rv, f, fl, ll, h1, h2, h3, h4⟩ := h; exact h4
 obtain ⟨As, Ar, A, Af, Al, Ae, cs, cr, c', cf, cl, ce, hm, hs, _⟩ := h.cells
 obtain ⟨s, hse⟩ : ∃ s, (stsS rs)[p]? = some s := ⟨_, List.getElem?_eq_getElem (by rw [stsS_len]; exact hp)⟩
 have HPY := Lib.hid (position_yes w mb As (cntS rs) cs p (by rw [Lib.cell_of_heap hm]; rfl) hp (by omega))
 have hsh : hsS rs p c = s.has c := by unfold hsS; rw [hse]
 rw [hsh]
 obtain ⟨nc, hnc⟩ : ∃ nc, nc = c.toNat := ⟨_, rfl⟩
 have hnc2 : nc < 256 := by rw [hnc]; exact c.toNat_lt
 have hj : nc / 64 < 4 := by omega
 obtain ⟨W, hW⟩ : ∃ W, W = s.word (nc / 64) := ⟨_, rfl⟩
 have hcell : ∃ g, As = some ⟨g, 0, none⟩ ∧ w.cell? ⟨g, p * 4 + nc / 64, none⟩ = some (.int .u64 W) := by
  rcases hs.2 with ⟨hv, hn⟩ | ⟨g, cap, cur, hv, hb, hh, r1, r2, r3, r4⟩
  ·omega
  ·injection hv with e1 e2 e3
   refine ⟨g, e1, ?_⟩
   rw [Lib.cell_of_heap hh]
   have hlt : p * 4 + nc / 64 < cntS rs * 4 := by omega
   have hget : (flatW (stsS rs))[p * 4 + nc / 64]? = some (.int .u64 W) := by
    exact flatW_get hse hj hW
   rw [← r4, List.getElem?_take_of_lt hlt] at hget
   simpa using hget
 obtain ⟨g, rfl, hcl⟩ := hcell
 have c0 : w.cell? ⟨mb, 0, none⟩ = some (.slice (some ⟨g, 0, none⟩) (cntS rs) cs) := by rw [Lib.cell_of_heap hm]; rfl
 have hβ : s.has c = decide (W / 2 ^ (nc % 64) % 2 = 1) := by
  unfold Ws.has
  rw [← hnc, hW]
  by_cases e : s.word (nc / 64) / 2 ^ (nc % 64) % 2 = 1 <;> simp [e]
 obtain ⟨β, hβ2⟩ : ∃ β, β = s.has c := ⟨_, rfl⟩
 rw [← hβ2, ← hnc]
 rw [← hβ2] at hβ
 have HB := Lib.hid hβ
 have hb := bit_eq W (nc % 64)
 obtain ⟨N, hN⟩ : ∃ N, N = cntS rs := ⟨_, rfl⟩
 rw [← hN] at c0 hp hc2
 have hpi : (p : Int) < N := by omega
 have hp0 : (0 : Int) ≤ p := by omega
 clear h hm hs hN hW hnc hsh hse hβ hβ2
 go_enter Tryz.func22, Tryz.ntmps22
 go_wp2_with fail
 refine HPY.out.mono ?_
 rintro e w1 ⟨rfl, rfl⟩
 go_wp2_with fail
 go_ret
 exact ⟨by rw [HB.out, ← bit_int W (nc % 64)]; rfl, rfl⟩
end Go.Proofs.YtejdfpieblkapaaGreatDoor
