/- Sets of small numbers as texts. -/
import Derived.Test.YtejdfpieblkapaaGreatDoorG30
import Derived.Lib.UnsafeStr
import Derived.Laws.OwnMore
namespace Go.Proofs.YtejdfpieblkapaaGreatDoor
open Lib renaming hid → zh
open Go.RowKit Go.Shelf

def lbs (x k : Nat) : List UInt8 := (List.range k).map fun j => UInt8.ofNat (x / 256 ^ j)
theorem lbs_len (x k : Nat) : (lbs x k).length = k := by simp [lbs]
theorem lbs_succ (x k : Nat) : lbs x (k + 1) = lbs x k ++ [UInt8.ofNat (x / 256 ^ k)] := by simp [lbs, List.range_succ]
def txt (ws : List Nat) : List UInt8 := ws.flatMap fun x => lbs x 8
theorem txt_snoc (ws : List Nat) (x : Nat) : txt (ws ++ [x]) = txt ws ++ lbs x 8 := by simp [txt]
theorem txt_len (ws : List Nat) : (txt ws).length = 8 * ws.length := by
 induction ws with
 | nil => rfl
 | cons x ws ih =>
  have : txt (x :: ws) = lbs x 8 ++ txt ws := by simp [txt]
  rw [this, List.length_append, lbs_len, ih, List.length_cons]; omega
theorem lbs_inj (x y : Nat) : ∀ k : Nat, lbs x k = lbs y k → x % 256 ^ k = y % 256 ^ k
 | 0, _ => by simp [Nat.mod_one]
 | k + 1, h => by
  rw [lbs_succ, lbs_succ] at h
  obtain ⟨h1, h2⟩ := List.append_inj h (by rw [lbs_len, lbs_len])
  have ih := lbs_inj x y k h1
  have h3 : x / 256 ^ k % 256 = y / 256 ^ k % 256 := by
   have := congrArg UInt8.toNat (List.singleton_inj.1 h2)
   simpa using this
  rw [Nat.pow_succ, Nat.mod_mul, Nat.mod_mul, ih, h3]
theorem txt_inj : ∀ (a b : List Nat), (∀ x ∈ a, x < 2 ^ 64) → (∀ x ∈ b, x < 2 ^ 64) → txt a = txt b → a = b
 | [], [], _, _, _ => rfl
 | [], y :: b, _, _, h => by have := congrArg List.length h; rw [txt_len, txt_len] at this; simp at this
 | x :: a, [], _, _, h => by have := congrArg List.length h; rw [txt_len, txt_len] at this; simp at this
 | x :: a, y :: b, ha, hb, h => by
  have e : ∀ (z : Nat) (c : List Nat), txt (z :: c) = lbs z 8 ++ txt c := fun z c => by simp [txt]
  rw [e, e] at h
  obtain ⟨h1, h2⟩ := List.append_inj h (by rw [lbs_len, lbs_len])
  have h3 := lbs_inj x y 8 h1
  have hx := ha x (List.mem_cons_self ..); have hy := hb y (List.mem_cons_self ..)
  have p : (256 : Nat) ^ 8 = 2 ^ 64 := by decide
  rw [p, Nat.mod_eq_of_lt hx, Nat.mod_eq_of_lt hy] at h3
  rw [h3, txt_inj a b (fun z hz => ha z (List.mem_cons_of_mem _ hz)) (fun z hz => hb z (List.mem_cons_of_mem _ hz)) h2]
theorem Tryz.info5 : (Tryz.prog.info? 5).map (fun i => (i.zero, i.size, i.bytes)) = some (some (.int .u8 0), 1, 1) := by kernel_rfl
set_option maxRecDepth 100000 in
set_option maxHeartbeats 1000000 in
theorem bs_text (w : World) (g n : Nat) (ws : List Nat) (h : BsAt w g ws) (hn : n = ws.length) (hn2 : n ≤ 20000) :
  Calls Tryz.prog 94 #[bsV g n] w fun e w' => e = .returned (.string ⟨(txt ws).toArray⟩) ∧ Below w.heap.size w w' := by
 have HG := zh h; have HN := zh hn
 clear h hn
 obtain ⟨i0, hi0, hz0, hz1, hz2⟩ := info_parts Tryz.info5
 have HI := zh hi0; have HZ0 := zh hz0; have HZ1 := zh hz1; have HZ2 := zh hz2
 clear hi0 hz0 hz1 hz2
 have p1 : IntKind.i64.wrap ((n : Int) * 8) = (n : Int) * 8 := IntWalk.i64_in _ (by omega)
 go_enter Tryz.func94, Tryz.ntmps94
 go_wp2_with (at_make; refine wpList_make_own _ rfl _ _ 147 rfl w.heap.size 5 i0 _ 1 Tryz.underlying147 HI.out HZ0.out HZ1.out .i64 .i64 ((n : Int) * 8) (n * 8) rfl rfl (by omega) (by rw [HZ2.out]; omega) (by unfold maxLen; omega) (Nat.le_refl _) ?_)
 intro w0 hown hgrow
 have HO := zh hown
 have HB0 := zh ((Below.refl w.heap.size w).grown hgrow (Nat.le_refl _) (fun g hg => by cases hg))
 clear hown hgrow
 go_wp2_with fail
 go_loopw [3, 12] (fun v i wr => ∃ k g' c' : Nat, k ≤ n ∧ i = .int .i64 k ∧ v = .slice (some ⟨g', 0, none⟩) (8 * k) c' ∧ Hid (wr.ownsRow w.heap.size 5 1 (.slice (some ⟨g', 0, none⟩) (8 * k) c') (8 * k) (Lib.byteCells (txt (ws.take k)))) ∧ Hid (Below w.heap.size w wr)) (fun _ i _ => n - (intOf i).toNat)
 case atStart => exact ⟨0, _, _, Nat.zero_le _, rfl, rfl, HO.out, HB0.out⟩
 case round =>
  clear HO HB0
  obtain ⟨k, g', c', hk, rfl, rfl, HO, HB⟩ := hrel
  by_cases hlt : k < n
  ·have hkw : k < ws.length := by rw [← HN.out]; exact hlt
   have hki : (k : Int) < n := by omega
   have hk0 : (0 : Int) ≤ k := by omega
   have c1 := ((HG.out.below HB.out).cell hkw).1
   have x1 := HG.out.2 _ (List.getElem_mem hkw)
   have HX := zh (show ws.take (k + 1) = ws.take k ++ [ws[k]] by rw [List.take_add_one, List.getElem?_eq_getElem hkw]; rfl)
   generalize ws[k] = x at c1 x1 HX
   obtain ⟨X, hX⟩ : ∃ X, X = txt (ws.take k) := ⟨_, rfl⟩
   rw [← hX] at HO
   have HX2 := zh (show txt (ws.take (k + 1)) = X ++ lbs x 8 by rw [HX.out, txt_snoc, hX])
   clear HX hX
   obtain ⟨m, hm⟩ : ∃ m, m = 8 * k := ⟨_, rfl⟩
   rw [← hm] at HO ⊢
   have hm2 : m + 8 ≤ 8 * n := by omega
   have HM := zh hm
   clear hm
   go_wp2_with fail
   go_loopw [3, 5, 16] (fun v u i wq => ∃ j g2 c2 y : Nat, j ≤ 8 ∧ i = .int .i64 j ∧ u = uv y ∧ v = .slice (some ⟨g2, 0, none⟩) (m + j) c2 ∧ Hid (y = x / 256 ^ j) ∧ Hid (wq.ownsRow w.heap.size 5 1 (.slice (some ⟨g2, 0, none⟩) (m + j) c2) (m + j) (Lib.byteCells (X ++ lbs x j))) ∧ Hid (Below w.heap.size w wq)) (fun _ _ i _ => 8 - (intOf i).toNat)
   case atStart => exact ⟨0, _, _, x, Nat.zero_le _, rfl, rfl, rfl, (by show x = x / 256 ^ 0; simp), by show World.ownsRow _ _ _ _ _ _ _; simpa [lbs] using HO.out, HB.out⟩
   case round =>
    clear HO HB c1
    obtain ⟨j, g2, c2, y, hj, rfl, rfl, rfl, HY, HO, HB⟩ := hrel
    have hj0 : (0 : Int) ≤ j := by omega
    have hy : y < 2 ^ 64 := by rw [HY.out]; exact Nat.lt_of_le_of_lt (Nat.div_le_self _ _) x1
    by_cases hlt2 : j < 8
    ·have hji : (j : Int) < 8 := by omega
     have HE := zh (show Lib.byteCells [UInt8.ofNat y] = [.int .u8 ((y : Int) % 256)] by simp [Lib.byteCells])
     have HY2 := zh (show y / 256 = x / 256 ^ (j + 1) by rw [HY.out, Nat.div_div_eq_div_mul, Nat.pow_succ])
     have HL := zh (show X ++ lbs x (j + 1) = (X ++ lbs x j) ++ [UInt8.ofNat y] by rw [lbs_succ, HY.out, List.append_assoc])
     have hzb := HB.out.size
     go_wp2_with (at_builtin; refine wpList_append_lies _ rfl _ _ 147 rfl w.heap.size 5 i0 _ 1 1 Tryz.underlying147 HI.out HZ0.out HZ1.out HZ2.out rfl (by omega) (.slice (some ⟨g2, 0, none⟩) (m + j) c2) (m + j) _ rfl (HO.out.alloc _) ⟨wr.heap.size, 0, none⟩ 1 1 [.int .u8 ((y : Int) % 256)] rfl rfl (World.news_of_block (cs := #[.int .u8 ((y : Int) % 256)]) (t := 5) (fr := (0, 0)) (heap_alloc_new wr _)) (by simp [Value.oneCell']) (by omega) (by unfold maxLen; omega) (by omega) (by simp; omega) (wr.heap.size + 1) (by simp) ?_)
     intro gg cap6 w6 hown6 hgrow6 hat6 hlt6
     have hb6 : Below w.heap.size w w6 := (HB.out.alloc HB.out.size _).grown hgrow6 (Nat.le_trans hzb (by simp)) (fun g hg => (HO.out.lt g hg).1)
     have HO6 := zh hown6
     have HB6 := zh hb6
     clear hown6 hgrow6 hat6 hlt6 hb6
     go_wp2
     go_roundw
     case rel =>
      refine ⟨j + 1, gg, cap6, y / 256, by omega, by go_num, by go_num, rfl, HY2.out, ?_, HB6.out⟩
      show World.ownsRow _ _ _ _ _ _ _
      rw [HL.out, Lib.byteCells_append, HE.out]; exact HO6.out
     case measure => simp [intOf]; omega
    ·obtain rfl : j = 8 := by omega
     have hm8 : m + 8 = 8 * (k + 1) := by rw [HM.out]; omega
     rw [hm8] at HO ⊢
     have HO8 := zh HO.out
     rw [← HX2.out] at HO8
     clear HO
     go_wp2_with fail
     go_roundw
     case rel => exact ⟨k + 1, _, _, by omega, by go_num, rfl, HO8.out, HB.out⟩
     case measure => simp [intOf]; omega
  ·obtain rfl : k = n := by omega
   have h1 := HO.out
   rw [show ws.take k = ws by rw [HN.out, List.take_length]] at h1
   have hcv := Go.run_convert_bytes_back wr 147 9 5 ⟨g', 0, none⟩ c' (txt ws) Tryz.underlying147 Tryz.underlying5 Tryz.underlying9 (fun j hj => by
    have := h1.cells rfl j (.int .u8 (txt ws)[j].toNat) (by simp only [Lib.byteCells, List.getElem?_map, List.getElem?_eq_getElem hj]; rfl)
    exact this)
   rw [txt_len, ← HN.out] at hcv
   clear h1 HO
   go_wp2
   go_ret
   exact ⟨rfl, HB.out⟩
end Go.Proofs.YtejdfpieblkapaaGreatDoor
