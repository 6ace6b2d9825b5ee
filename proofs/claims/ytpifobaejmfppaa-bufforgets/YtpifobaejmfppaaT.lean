/- Runs in memory; what runsOf answers. -/
import Derived.Test.YtpifobaejmfppaaR
namespace Go.Proofs.Ytpifobaejmfppaa
open Go.RowKit

def Rn.cells (r : Rn) : List Value := [.string r.x, .bool r.kept, .int .i64 r.f]
def rnCells (l : List Rn) : List Value := l.flatMap Rn.cells
theorem rnCells_append (a b : List Rn) : rnCells (a ++ b) = rnCells a ++ rnCells b := by simp [rnCells]
theorem rnCells_get : ∀ (l : List Rn) (i : Nat) (r : Rn), l[i]? = some r → (rnCells l)[i * 3]? = some (.string r.x) ∧ (rnCells l)[i * 3 + 1]? = some (.bool r.kept) ∧ (rnCells l)[i * 3 + 2]? = some (.int .i64 r.f)
  | [], i, e, h => by simp at h
  | x :: r, 0, e, h => by
    simp at h; subst h
    simp [rnCells, Rn.cells]
  | x :: r, i + 1, e, h => by
    have ih := rnCells_get r i e (by simpa using h)
    have hc : rnCells (x :: r) = [.string x.x, .bool x.kept, .int .i64 x.f] ++ rnCells r := rfl
    rw [hc]
    refine ⟨?_, ?_, ?_⟩
    · rw [List.getElem?_append_right (by simp; omega)]; rw [← ih.1]; congr 1; simp; omega
    · rw [List.getElem?_append_right (by simp; omega)]; rw [← ih.2.1]; congr 1; simp; omega
    · rw [List.getElem?_append_right (by simp; omega)]; rw [← ih.2.2]; congr 1; simp; omega

/-- The runs of a right list of edits. -/
def rl (s : ByteArray) (a : Nat) : List Ed → List Rn
  | [] => [⟨s.extract a s.size, true, a⟩]
  | e :: r => ⟨s.extract a e.f.toNat, true, a⟩ :: ⟨e.s, false, 0⟩ :: rl s e.t.toNat r

theorem rl_len (s : ByteArray) : ∀ (l : List Ed) (a : Nat), (rl s a l).length = 2 * l.length + 1
  | [], _ => rfl
  | e :: r, a => by simp only [rl, List.length_cons, rl_len s r]; omega

theorem rl_text (s : ByteArray) : ∀ (l : List Ed) (a : Nat), rnText (rl s a l) = appl s.data.toList a l
  | [], a => by simp only [rl, rnText, Rn.bs, List.append_nil, appl]; exact ext_to_end s a
  | e :: r, a => by
    simp only [rl, rnText, Rn.bs, rl_text s r, appl_cons, Lib.extract_data]; rfl

theorem rl_ok (s : ByteArray) : ∀ (l : List Ed) (a : Nat), a ≤ s.size → rightB a s.size l = true → rnOK s.data.toList a (rl s a l)
  | [], a, ha, _ => by
    have hl : s.data.toList.length = s.size := (Lib.size_eq s).symm
    have hx : (s.extract a s.size).size = s.size - a := by rw [ByteArray.size_extract]; omega
    simp only [rl, rnOK, Rn.bs, if_true, hx]
    refine ⟨Int.le_refl _, by omega, by omega, ?_, trivial⟩
    rw [ext_to_end, Int.toNat_natCast]
    exact (List.take_of_length_le (by rw [List.length_drop]; omega)).symm
  | e :: r, a, ha, h => by
    rw [rightB_cons, Bool.and_eq_true, Ed.okB_iff] at h
    obtain ⟨⟨h1, h2, h3⟩, h4⟩ := h
    have hl : s.data.toList.length = s.size := (Lib.size_eq s).symm
    have hx : (s.extract a e.f.toNat).size = e.f.toNat - a := by rw [ByteArray.size_extract]; omega
    have ih := rl_ok s r e.t.toNat (by omega) (by rw [Int.toNat_of_nonneg (by omega)]; exact h4)
    simp only [rl, rnOK, Rn.bs, if_true, hx]
    refine ⟨Int.le_refl _, by omega, by omega, by rw [Lib.extract_data, Int.toNat_natCast], ?_⟩
    simp only [Bool.false_eq_true, if_false]
    exact rnOK_weak (by omega) ih

theorem Try.info80 : (Try.prog.info? 80).map (fun i => (i.zero, i.size, i.bytes)) = some (some (.agg #[.string ⟨#[]⟩, .bool false, .int .i64 0]), 3, 32) := by kernel_rfl

/-- What runsOf leaves. -/
def RnsNew (l : List Rn) (w : World) (e : Ending) (w' : World) : Prop :=
  ∃ g c, e = .returned (.slice (some ⟨g, 0, none⟩) l.length c) ∧ w'.ownsRow w.heap.size 80 3 (.slice (some ⟨g, 0, none⟩) l.length c) l.length (rnCells l) ∧ Below w.heap.size w w'

set_option maxRecDepth 100000 in
set_option maxHeartbeats 2000000 in
theorem runsOf_any (s : ByteArray) (A : Option Addr) (len cap : Nat) (l : List Ed) (w : World) (hlen : l.length = len) (_hl : len ≤ cap) (_hcap : cap ≤ 9223372036854775807) (hsm : len ≤ 1048576) (hE : EdsAt w w.heap.size A l)
    (hR : rightB 0 s.size l = true) (_hS : s.size + tot l ≤ 1099511627776) :
    Calls Try.prog 51 #[.string s, .slice A len cap] w (RnsNew (rl s 0 l) w) := by
  have HL := Lib.hid hlen; clear hlen
  have HR := Lib.hid hR; clear hR
  obtain ⟨i0, hi0, hz0, hz1, hz2⟩ := info_parts Try.info80
  have HI := Lib.hid hi0
  have HZ0 := Lib.hid hz0
  have HZ1 := Lib.hid hz1
  have HZ2 := Lib.hid hz2
  clear hi0 hz0 hz1 hz2
  go_enter Try.func51, Try.ntmps51
  go_wp2_with (at_make; refine wpList_make_own _ rfl _ _ 82 rfl w.heap.size 80 i0 _ 3 Try.underlying82 HI.out HZ0.out HZ1.out .i64 .i64 (2 * (len : Int) + 1) (2 * len + 1) rfl rfl (by omega) (by rw [HZ2.out]; omega) (by unfold maxLen; omega) (Nat.le_refl _) ?_)
  intro w1 hown1 hg1
  have hb1 : Below w.heap.size w w1 := (Below.refl _ _).grown hg1 (Nat.le_refl _) (fun g hg => by cases hg)
  clear hg1
  go_wp2_with fail
  go_loopw [5, 6, 16] (fun v a i wr => ∃ (k x c g : Nat) (dn : List Rn), k ≤ len ∧ i = .int .i64 k ∧ a = .int .i64 x ∧ v = .slice (some ⟨g, 0, none⟩) (2 * k) c ∧ x ≤ s.size ∧ Hid (rightB x s.size (l.drop k) = true) ∧ Hid (dn.length = 2 * k) ∧ Hid (dn ++ rl s x (l.drop k) = rl s 0 l) ∧ Hid (wr.ownsRow w.heap.size 80 3 (.slice (some ⟨g, 0, none⟩) (2 * k) c) (2 * k) (rnCells dn)) ∧ Below w.heap.size w wr) (fun _ _ i _ => len - (intOf i).toNat)
  case atStart => exact ⟨0, 0, _, _, [], Nat.zero_le _, rfl, rfl, rfl, Nat.zero_le _, HR.out, rfl, rfl, hown1, hb1⟩
  case round =>
    clear hb1 hown1
    obtain ⟨k, x, c, g, dn, hk, rfl, rfl, rfl, hx, HRk, HDl, HT, HO, hb⟩ := hrel
    by_cases hlt : k < len
    · obtain ⟨e, he⟩ := get_some l k (by rw [HL.out]; exact hlt)
      have HD := Lib.hid (drop_cons_of he)
      have hr1 := HRk.out
      rw [HD.out, rightB_cons, Bool.and_eq_true, Ed.okB_iff] at hr1
      obtain ⟨⟨q1, q2, q3⟩, q4⟩ := hr1
      have HQ := Lib.hid q4; clear q4
      obtain ⟨ad, rfl, hab, c0, c1, c2⟩ := (hE.below hb) k e he
      clear he
      have hzb := hb.size
      go_wp2_with fail
      have hne := Lib.hid (show (Value.slice (some ⟨g, 0, none⟩) (2 * k) c).ownBlock ≠ some wr.heap.size from fun h => by have := (HO.out.lt _ h).2; omega)
      have hnw : (((wr.alloc (.cells #[.int .i64 e.f, .int .i64 e.t, .string e.s] 35)).alloc (.cells #[.string (s.extract x e.f.toNat), .bool true, .int .i64 x, .string e.s, .bool false, .int .i64 0] 80)).drew).heap[wr.heap.size + 1]? = some (.cells #[.string (s.extract x e.f.toNat), .bool true, .int .i64 x, .string e.s, .bool false, .int .i64 0] 80 (0, 0)) := by
        have := heap_alloc_new (wr.alloc (.cells #[.int .i64 e.f, .int .i64 e.t, .string e.s] 35)) (.cells #[.string (s.extract x e.f.toNat), .bool true, .int .i64 x, .string e.s, .bool false, .int .i64 0] 80)
        rw [show (wr.alloc (.cells #[.int .i64 e.f, .int .i64 e.t, .string e.s] 35)).heap.size = wr.heap.size + 1 by simp] at this
        exact this
      have HNW := Lib.hid hnw; clear hnw
      have u1 : e.f ≤ (s.size : Int) := by omega
      have u2 : (0 : Int) ≤ e.f := by omega
      have u3 : (0 : Int) ≤ (x : Int) := by omega
      have u4 : x ≤ e.f.toNat := by omega
      have u5 : e.f.toNat ≤ s.size := by omega
      go_region_held3 (fun w' => w'.cell? ⟨wr.heap.size, 0, none⟩ = some (.int .i64 e.f) ∧ w'.cell? ⟨wr.heap.size, 1, none⟩ = some (.int .i64 e.t) ∧ w'.cell? ⟨wr.heap.size, 2, none⟩ = some (.string e.s))
        (first
          | go_keep
          | (go_split_ands; refine ⟨?_, ?_, ?_⟩ <;> (rw [hgrow6.cell_far _ (by simp; omega) (Ne.symm hne.out)]; assumption)))
        ((refine step_append_lies _ (by rfl) _ _ _ (by rfl) w.heap.size 80 i0 _ 3 32 Try.underlying82 HI.out HZ0.out HZ1.out HZ2.out rfl (by omega) (.slice (some ⟨g, 0, none⟩) (2 * k) c) (2 * k) (rnCells dn) (by rfl) ((HO.out.alloc _).alloc _).drew ⟨wr.heap.size + 1, 0, none⟩ 2 2 [.string (s.extract x e.f.toNat), .bool true, .int .i64 x, .string e.s, .bool false, .int .i64 0] (by rfl) (by rfl) (World.news_of_block (cs := #[.string (s.extract x e.f.toNat), .bool true, .int .i64 x, .string e.s, .bool false, .int .i64 0]) (t := 80) (fr := (0, 0)) HNW.out) (by simp [Value.oneCell']) (by omega) (by unfold maxLen; omega) (by omega) (by simp; omega) (wr.heap.size + 2) (by simp) ?_; intro gg cap6 w6 hown6 hgrow6 hat6 hlt6))
      have hb6 : Below w.heap.size w w6 := (((hb.alloc hzb _).alloc (by simp; omega) _).drew).grown hgrow6 (by simp; omega) (fun g hg => (HO.out.lt g hg).1)
      have d1 : w6.cell? ⟨wr.heap.size, 1, none⟩ = some (.int .i64 e.t) := by rw [hgrow6.cell_far _ (by simp; omega) (Ne.symm hne.out)]; simp
      have HO6 := Lib.hid hown6
      clear hown6 hgrow6 hat6 hlt6
      go_wp2
      go_roundw
      case rel =>
        refine ⟨k + 1, e.t.toNat, cap6, gg, dn ++ [⟨s.extract x e.f.toNat, true, x⟩, ⟨e.s, false, 0⟩], by omega, by go_num, by rw [Int.toNat_of_nonneg (by omega)], rfl, by omega, ?_, ?_, ?_, ?_, hb6⟩
        · show rightB _ _ _ = true
          rw [Int.toNat_of_nonneg (by omega)]; exact HQ.out
        · show (_ : Nat) = _
          rw [List.length_append, HDl.out]; simp; omega
        · show _ = _
          rw [← HT.out, HD.out, rl, List.append_assoc]; rfl
        · show World.ownsRow _ _ _ _ _ _ _
          rw [rnCells_append]; exact HO6.out
      case measure => simp [intOf]; omega
    · have hkl : k = len := by omega
      have hdr : l.drop k = [] := List.drop_of_length_le (by rw [HL.out]; omega)
      have HF := Lib.hid (show dn ++ [(⟨s.extract x s.size, true, x⟩ : Rn)] = rl s 0 l by rw [← HT.out, hdr]; rfl)
      clear hdr
      have hzb := hb.size
      have HKL := Lib.hid hkl; clear hkl
      go_wp2_with (at_builtin; refine wpList_append_lies _ rfl _ _ 82 rfl w.heap.size 80 i0 _ 3 32 Try.underlying82 HI.out HZ0.out HZ1.out HZ2.out rfl (by omega) (.slice (some ⟨g, 0, none⟩) (2 * k) c) (2 * k) _ rfl (HO.out.alloc _) ⟨wr.heap.size, 0, none⟩ 1 1 [.string (s.extract x s.size), .bool true, .int .i64 x] rfl rfl (World.news_of_block (cs := #[.string (s.extract x s.size), .bool true, .int .i64 x]) (t := 80) (fr := (0, 0)) (heap_alloc_new wr _)) (by simp [Value.oneCell']) (by omega) (by unfold maxLen; omega) (by omega) (by simp; omega) (wr.heap.size + 1) (by simp) ?_)
      intro gg cap6 w6 hown6 hgrow6 hat6 hlt6
      have hb6 : Below w.heap.size w w6 := (hb.alloc hzb _).grown hgrow6 (by simp; omega) (fun g hg => (HO.out.lt g hg).1)
      have HO6 := Lib.hid hown6
      clear hown6 hgrow6 hat6 hlt6
      go_wp2
      refine bodyPost_ret (v := .slice (some ⟨gg, 0, none⟩) (2 * k + 1) cap6) (by simp [results, Try.results51, go_sem]) rfl ?_
      unfold RnsNew
      have hll : (rl s 0 l).length = 2 * k + 1 := by rw [rl_len, HL.out, HKL.out]
      rw [hll, ← HF.out, rnCells_append]
      exact ⟨gg, cap6, rfl, HO6.out, hb6⟩
end Go.Proofs.Ytpifobaejmfppaa
