/- Sets of small numbers, once more: Meet, Of. -/
import Derived.Test.YtejdfpieblkapaaGreatDoorG30
namespace Go.Proofs.YtejdfpieblkapaaGreatDoor
open Lib renaming hid → zh
open Go.RowKit Go.Shelf

def mt2 (a b : List Nat) : List Nat := List.zipWith (· &&& ·) a b
theorem mt2_len (a b : List Nat) (h : a.length = b.length) : (mt2 a b).length = a.length := by simp [mt2, h]
theorem bt_mt2 (a b : List Nat) (h : a.length = b.length) (q : Nat) : bt (mt2 a b) q = (bt a q && bt b q) := by
 unfold bt mt2
 simp only [List.getD_eq_getElem?_getD, List.getElem?_zipWith]
 rcases Nat.lt_or_ge (q / 64) a.length with hq | hq
 ·rw [List.getElem?_eq_getElem hq, List.getElem?_eq_getElem (by omega)]
  simp [Nat.testBit_and]
 ·rw [List.getElem?_eq_none hq, List.getElem?_eq_none (by omega)]
  simp
def mk2 (a b : List Nat) (k : Nat) : List Nat := (mt2 a b).take k ++ List.replicate (a.length - k) 0
theorem mk2_zero (a b : List Nat) : mk2 a b 0 = List.replicate a.length 0 := by simp [mk2]
theorem mk2_all (a b : List Nat) (h : a.length = b.length) : mk2 a b a.length = mt2 a b := by
 unfold mk2
 rw [List.take_of_length_le (by rw [mt2_len a b h]; exact Nat.le_refl _), Nat.sub_self, List.replicate_zero, List.append_nil]
theorem mk2_len (a b : List Nat) (h : a.length = b.length) (k : Nat) (hk : k ≤ a.length) : (mk2 a b k).length = a.length := by
 unfold mk2; rw [List.length_append, List.length_take, mt2_len a b h, List.length_replicate]; omega
theorem mk2_step (a b : List Nat) (h : a.length = b.length) (k : Nat) (hk : k < a.length) : (mk2 a b k).set k (a[k] &&& b[k]) = mk2 a b (k + 1) := by
 apply List.ext_getElem?
 intro i
 unfold mk2
 have hj := mt2_len a b h
 rcases Nat.lt_trichotomy i k with hi | hi | hi
 ·rw [List.getElem?_set_ne (by omega), List.getElem?_append_left (by rw [List.length_take]; omega), List.getElem?_append_left (by rw [List.length_take]; omega), List.getElem?_take_of_lt hi, List.getElem?_take_of_lt (by omega)]
 ·subst hi
  rw [List.getElem?_set_self (by rw [List.length_append, List.length_take, List.length_replicate]; omega), List.getElem?_append_left (by rw [List.length_take]; omega), List.getElem?_take_of_lt (by omega)]
  unfold mt2
  rw [List.getElem?_zipWith, List.getElem?_eq_getElem hk, List.getElem?_eq_getElem (by omega)]
 ·rw [List.getElem?_set_ne (by omega), List.getElem?_append_right (by rw [List.length_take]; omega), List.getElem?_append_right (by rw [List.length_take]; omega)]
  rw [List.getElem?_replicate, List.getElem?_replicate, List.length_take, List.length_take, hj]
  by_cases hi2 : i < a.length
  ·rw [if_pos (by omega), if_pos (by omega)]
  ·rw [if_neg (by omega), if_neg (by omega)]
theorem andw (x y : Nat) (hx : x < 2 ^ 64) (hy : y < 2 ^ 64) : bits .and .u64 (x : Int) (y : Int) = ((x &&& y : Nat) : Int) := by
 have hv : ∀ y : Nat, y < 2 ^ 64 → (BitVec.ofInt 64 (y : Int)).toNat = y := fun y hy => by
  rw [BitVec.ofInt_natCast, BitVec.toNat_ofNat]; exact Nat.mod_eq_of_lt hy
 show IntKind.u64.wrap ((BitVec.ofInt 64 (x : Int) &&& BitVec.ofInt 64 (y : Int)).toNat : Int) = _
 rw [BitVec.toNat_and, hv x hx, hv _ hy, IntKind.wrap_u64]
 have := Nat.and_lt_two_pow x hy
 omega

set_option maxRecDepth 100000 in
set_option maxHeartbeats 1000000 in
theorem bs_meet (w : World) (g h n : Nat) (ws us : List Nat) (hg : BsAt w g ws) (hh : BsAt w h us) (hn : n = ws.length) (hu : ws.length = us.length) (hn2 : n ≤ 20000) :
  Calls Tryz.prog 97 #[bsV g n, bsV h n] w fun e w' => e = .returned (bsV w.heap.size n) ∧ BsAt w' w.heap.size (mt2 ws us) ∧ Below w.heap.size w w' := by
 have HG := zh hg; have HH := zh hh; have HN := zh hn; have HU := zh hu
 clear hg hh hn hu
 obtain ⟨i0, hi0, hz0, hz1, hz2⟩ := info_parts Tryz.info99
 have HI := zh hi0; have HZ0 := zh hz0; have HZ1 := zh hz1; have HZ2 := zh hz2
 clear hi0 hz0 hz1 hz2
 go_enter Tryz.func97, Tryz.ntmps97
 go_wp2_with (at_make; refine wpList_make_row _ rfl _ _ 87 rfl 99 i0 (.int .u64 0) Tryz.underlying87 HI.out HZ0.out HZ1.out rfl .i64 .i64 n rfl rfl (by rw [HZ2.out]; omega) (by omega) ?_)
 have HB0 := zh ((Below.refl w.heap.size w).alloc (Nat.le_refl _) (.cells (madeCells #[.int .u64 0] n) 99 (0, 0)))
 have HS0 : Hid (BsAt (w.alloc (.cells (madeCells #[.int .u64 0] n) 99 (0, 0))) w.heap.size (mk2 ws us 0)) := by
  refine ⟨?_, fun x hx => ?_⟩
  ·rw [heap_alloc_new, made_rep, mk2_zero, HN.out]
  ·rw [mk2_zero] at hx
   rw [List.eq_of_mem_replicate hx]; decide
 have HG0 := zh (HG.out.below HB0.out)
 have HH0 := zh (HH.out.below HB0.out)
 generalize (w.alloc (.cells (madeCells #[.int .u64 0] n) 99 (0, 0))) = w0 at *
 have HL := zh (lt_of_heap HG.out.1)
 have HL2 := zh (lt_of_heap HH.out.1)
 go_loopw [13] (fun i wr => ∃ k : Nat, k ≤ n ∧ i = .int .i64 k ∧ Hid (BsAt wr w.heap.size (mk2 ws us k)) ∧ Hid (Kb (fun i => i = w.heap.size) w0 wr)) (fun i _ => n - (intOf i).toNat)
 case atStart => exact ⟨0, Nat.zero_le _, rfl, HS0.out, Kb.refl _ _⟩
 case round =>
  obtain ⟨k, hk, rfl, HB, HK⟩ := hrel
  by_cases hlt : k < n
  ·have hkw : k < ws.length := by rw [← HN.out]; exact hlt
   have hku : k < us.length := by rw [← HU.out]; exact hkw
   have hki : (k : Int) < n := by omega
   have hk0 : (0 : Int) ≤ k := by omega
   have hjl := mk2_len ws us HU.out k (by omega)
   obtain ⟨v0, c0, f1⟩ : ∃ v, wr.cell? ⟨w.heap.size, k, none⟩ = some v ∧ wr.frozen? ⟨w.heap.size, k, none⟩ = false := ⟨_, HB.out.cell (i := k) (by rw [hjl]; exact hkw)⟩
   have c1 := ((HG0.out.keep HK.out (fun e => Nat.ne_of_lt HL.out e)).cell hkw).1
   have c2 := ((HH0.out.keep HK.out (fun e => Nat.ne_of_lt HL2.out e)).cell hku).1
   have x1 := HG.out.2 _ (List.getElem_mem hkw)
   have x2 := HH.out.2 _ (List.getElem_mem hku)
   have hor := andw _ _ x1 x2
   have HS := zh (HB.out.set k (ws[k] &&& us[k]) (Nat.and_lt_two_pow _ x2))
   rw [mk2_step ws us HU.out k hkw] at HS
   generalize ws[k] = W1 at c1 hor HS x1
   generalize us[k] = W2 at c2 hor HS x2
   clear hjl
   go_wp2
   go_roundw
   case rel => exact ⟨k + 1, by omega, by go_num, HS.out, HK.out.trans (Kb.setCell wr ⟨w.heap.size, k, none⟩ _) (fun i _ hi => hi)⟩
   case measure => simp [intOf]; omega
  ·obtain rfl : k = n := by omega
   go_wp2
   go_ret
   have h1 := HB.out
   rw [HN.out, mk2_all ws us HU.out] at h1
   exact ⟨rfl, h1, HB0.out.trans (HK.out.below HB0.out.size (fun i hi => Nat.le_of_eq hi.symm))⟩

def put1 (ws : List Nat) (p : Nat) : List Nat := ws.set (p / 64) (ws.getD (p / 64) 0 ||| 2 ^ (p % 64))
def puts (ws l : List Nat) : List Nat := l.foldl put1 ws
theorem put1_len (ws : List Nat) (p : Nat) : (put1 ws p).length = ws.length := by simp [put1]
theorem puts_len (ws l : List Nat) : (puts ws l).length = ws.length := by
 unfold puts
 induction l generalizing ws with
 | nil => rfl
 | cons p l ih => rw [List.foldl_cons, ih, put1_len]
theorem puts_snoc (ws l : List Nat) (p : Nat) : puts ws (l ++ [p]) = put1 (puts ws l) p := by simp [puts]
theorem put1_eq (ws : List Nat) (p : Nat) (h : p / 64 < ws.length) : put1 ws p = ws.set (p / 64) (ws[p / 64] ||| 2 ^ (p % 64)) := by
 unfold put1; rw [List.getD_eq_getElem?_getD, List.getElem?_eq_getElem h]; rfl
theorem bt_puts (ws l : List Nat) (h : ∀ p ∈ l, p / 64 < ws.length) (q : Nat) : bt (puts ws l) q = (bt ws q || decide (q ∈ l)) := by
 induction l generalizing ws with
 | nil => simp [puts]
 | cons p l ih =>
  have hp := h p (List.mem_cons_self ..)
  show bt (puts (put1 ws p) l) q = _
  rw [ih (put1 ws p) (fun x hx => by rw [put1_len]; exact h x (List.mem_cons_of_mem _ hx)), put1_eq ws p hp, bt_add ws p q hp]
  rw [Bool.or_assoc]
  congr 1
  by_cases hq : q = p
  ·simp [hq]
  ·simp [hq]

end Go.Proofs.YtejdfpieblkapaaGreatDoor

/- Sets with the same numbers are the same words. -/
namespace Go.Proofs.YtejdfpieblkapaaGreatDoor
open Go.RowKit Go.Shelf

theorem bt_ext {a b : List Nat} (hl : a.length = b.length) (ha : ∀ x ∈ a, x < 2 ^ 64) (hb : ∀ x ∈ b, x < 2 ^ 64) (h : ∀ q, bt a q = bt b q) : a = b := by
 apply List.ext_getElem hl
 intro i h1 h2
 apply Nat.eq_of_testBit_eq
 intro j
 rcases Nat.lt_or_ge j 64 with hj | hj
 ·have := h (64 * i + j)
  unfold bt at this
  rw [show (64 * i + j) / 64 = i by omega, show (64 * i + j) % 64 = j by omega] at this
  simpa [List.getD_eq_getElem?_getD, List.getElem?_eq_getElem h1, List.getElem?_eq_getElem h2] using this
 ·have p : (2 : Nat) ^ 64 ≤ 2 ^ j := Nat.pow_le_pow_right (by omega) hj
  rw [Nat.testBit_lt_two_pow (Nat.lt_of_lt_of_le (ha _ (List.getElem_mem h1)) p), Nat.testBit_lt_two_pow (Nat.lt_of_lt_of_le (hb _ (List.getElem_mem h2)) p)]
def wds (N : Nat) (p : Nat → Bool) : List Nat := puts (List.replicate ((N + 63) / 64) 0) ((List.range N).filter p)
theorem wds_len (N : Nat) (p : Nat → Bool) : (wds N p).length = (N + 63) / 64 := by simp [wds, puts_len]
theorem bt_wds (N : Nat) (p : Nat → Bool) (q : Nat) : bt (wds N p) q = (decide (q < N) && p q) := by
 unfold wds
 rw [bt_puts _ _ (fun x hx => by
  have := (List.mem_filter.1 hx).1
  simp at this
  simp
  omega), bt_none, Bool.false_or]
 by_cases h : q < N <;> simp [h]
theorem put1_lt {ws : List Nat} {p : Nat} (h : ∀ x ∈ ws, x < 2 ^ 64) : ∀ x ∈ put1 ws p, x < 2 ^ 64 := by
 intro x hx
 unfold put1 at hx
 rcases List.mem_or_eq_of_mem_set hx with hx | hx
 ·exact h x hx
 ·rw [hx]
  refine Nat.or_lt_two_pow ?_ (Nat.pow_lt_pow_right (by omega) (by omega))
  rw [List.getD_eq_getElem?_getD]
  cases e : ws[p / 64]? with
  | none => decide
  | some y => exact h y (List.mem_of_getElem? e)
theorem puts_lt {l : List Nat} : ∀ {ws : List Nat}, (∀ x ∈ ws, x < 2 ^ 64) → ∀ x ∈ puts ws l, x < 2 ^ 64 := by
 induction l with
 | nil => intro ws h; exact h
 | cons p l ih => intro ws h; exact ih (ws := put1 ws p) (put1_lt h)
theorem wds_lt (N : Nat) (p : Nat → Bool) : ∀ x ∈ wds N p, x < 2 ^ 64 := puts_lt (fun x hx => by rw [List.eq_of_mem_replicate hx]; decide)
theorem wds_of {ws : List Nat} {N : Nat} {p : Nat → Bool} (hl : ws.length = (N + 63) / 64) (hw : ∀ x ∈ ws, x < 2 ^ 64) (h : ∀ q, bt ws q = true ↔ q < N ∧ p q = true) : ws = wds N p :=
 bt_ext (by rw [hl, wds_len]) hw (wds_lt N p) (fun q => by
  rw [bt_wds, Bool.eq_iff_iff, h q]
  simp)
end Go.Proofs.YtejdfpieblkapaaGreatDoor
