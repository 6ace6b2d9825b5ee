/- The law BufForgets. -/
import Derived.Test.YtpifobaejmfppaaN25
import Derived.Test.YtpifobaejmfppaaN23
import Derived.OwnWalk
namespace Go.Proofs.Ytpifobaejmfppaa
open Go.RowKit

/-- A new row of bytes, as a text. -/
theorem zero_text (w : World) (n : Nat) {base : Nat} (h : w.ownsRow base 5 1 (.slice (some ⟨base, 0, none⟩) n n) n (madeCells #[.int .u8 0] n).toList) :
    (convert 64 9 (.slice (some ⟨base, 0, none⟩) n n)).run Try.prog w = .ok (.string ⟨(List.replicate n (0 : UInt8)).toArray⟩) w := by
  have hc := run_convert_bytes_back (P := Try.prog) w 64 9 5 ⟨base, 0, none⟩ n (List.replicate n 0) Try.underlying64 Try.underlying5 Try.underlying9 (fun j hj => by
    have hj' : j < n := by simpa using hj
    refine h.cells rfl j _ ?_
    rw [Array.getElem?_toList]
    simp [madeCells, hj', Value.cells, Nat.mod_one])
  rw [List.length_replicate] at hc
  exact hc

/-- The texts of steps, one byte shorter each. -/
def LenCh (T : List UInt8) (ps : List St) : Prop := ∀ (j : Nat) (s : St), ps[j]? = some s → s.2.length + (j + 1) = T.length

theorem LenCh.drop {T : List UInt8} {ps : List St} (h : LenCh T ps) : LenCh T ps.dropLast := fun j s hj => by
  refine h j s ?_
  rw [List.getElem?_dropLast] at hj
  split at hj
  · exact hj
  · cases hj
theorem LenCh.cons {T T' : List UInt8} {ps : List St} (h : LenCh T ps) (l : List Ed) (hT : T'.length = T.length + 1) : LenCh T' ((l, T) :: ps) := fun j s hj => by
  cases j with
  | zero => simp at hj; subst hj; simp only; omega
  | succ j => have := h j s (by simpa using hj); omega
theorem LenCh.tail {T t : List UInt8} {l : List Ed} {ps : List St} (h : LenCh T ((l, t) :: ps)) : t.length + 1 = T.length ∧ LenCh t ps := by
  have h0 := h 0 (l, t) rfl
  simp only at h0
  refine ⟨h0, fun j s hj => ?_⟩
  have := h (j + 1) s (by simpa using hj)
  omega

/-- A buffer into which i bytes were put. -/
def Fg (N Bf i : Nat) (w : World) : Prop :=
  ∃ P F made n T ps fs, HisAt w N Bf P F made n T ps fs ∧ made ≤ i ∧ ps.length = min i 1000 ∧ LenCh T ps ∧ T.length = 1 + i ∧ fs = []

theorem fg_splice (N Bf i : Nat) (w : World) (h : Fg N Bf i w) (hi : i < 2000) :
    Calls Try.prog 29 #[.pointer (some ⟨Bf, 0, none⟩), .int .i64 0, .int .i64 0, .string ⟨#[121]⟩] w fun e w' => e = .returned (.int .i64 0) ∧ Fg N Bf (i + 1) w' ∧ Below N w w' := by
  obtain ⟨P, F, made, n, T, ps, fs, h1, h2, h3, h4, h5, _⟩ := h
  have hR : rightB 0 T.length [(⟨0, 0, ⟨#[121]⟩⟩ : Ed)] = true := by rw [right_one]; exact decide_eq_true ⟨by omega, by omega, by omega⟩
  have hal : (appl T 0 [(⟨0, 0, ⟨#[121]⟩⟩ : Ed)]).length = T.length + 1 := by
    have := appl_len T [(⟨0, 0, ⟨#[121]⟩⟩ : Ed)] 0 (Nat.zero_le _) hR
    simp only [sumGr, Ed.gr] at this
    have hs : (⟨#[121]⟩ : ByteArray).size = 1 := rfl
    rw [hs] at this
    omega
  have hs1 : (⟨#[121]⟩ : ByteArray).size = 1 := rfl
  by_cases hps : ps.length < 1000
  · refine (splice_ok N Bf P F made n T ps fs 0 0 ⟨#[121]⟩ w h1 hR (by rw [hs1]; omega) (by omega) hps (by omega)).mono ?_
    rintro e w' ⟨rfl, P', hbk⟩
    have hb := hbk.below h1
    obtain ⟨n', hh, _⟩ := hbk
    exact ⟨rfl, ⟨P', _, _, n', _, _, _, hh, by omega, by simp; omega, h4.cons _ hal, by omega, rfl⟩, hb⟩
  · refine splice_of Bf 0 0 ⟨#[121]⟩ w 0 _ fun w1 hb hE => ?_
    refine (bap_full N Bf P F made n T ps fs _ 1 1 [⟨0, 0, ⟨#[121]⟩⟩] w1 (h1.below hb) rfl (Nat.le_refl _) (by omega) (by omega) hE hR (by simp [tot, hs1]) (by omega) (by omega) (by omega)).mono ?_
    rintro e w' ⟨rfl, P', hbk⟩
    have hb' := (hbk.from hb).below h1
    obtain ⟨n', hh, _⟩ := hbk
    exact ⟨rfl, ⟨P', _, _, n', _, _, _, hh, by omega, by simp; omega, (h4.cons _ hal).drop, by omega, rfl⟩, hb'⟩

/-- .. of which u were undone. -/
def Un (N Bf i u : Nat) (w : World) : Prop :=
  ∃ P F made n T ps fs, HisAt w N Bf P F made n T ps fs ∧ ps.length + u = 1000 ∧ fs.length ≤ u + 1 ∧ LenCh T ps ∧ T.length + u = 1 + i

theorem repl_size (n : Nat) : (⟨(List.replicate n (0 : UInt8)).toArray⟩ : ByteArray).size = n := by simp [ByteArray.size]

set_option maxRecDepth 100000 in
set_option maxHeartbeats 4000000 in
theorem law_forgets (x y : Int) (w : World) (hx0 : 0 ≤ x) (hx1 : x ≤ 255) (hy0 : 0 ≤ y) (hy1 : y ≤ 255) :
    Calls Try.prog 10 #[.int .u8 x, .int .u8 y] w (Fine w) := by
  obtain ⟨i0, hi0, hz0, hz1, hz2⟩ := info_parts Try.info5
  have HI := Lib.hid hi0; have HZ0 := Lib.hid hz0; have HZ1 := Lib.hid hz1; have HZ2 := Lib.hid hz2
  clear hi0 hz0 hz1 hz2
  go_enter Try.func10, Try.ntmps10
  go_wp2_with fail
  refine (awake2 w).mono ?_
  rintro e w1 ⟨rfl, hb1⟩
  have hz1 := hb1.size
  have HB1 := Lib.hid hb1
  clear hb1
  have HS := Lib.hid (new_any ⟨#[120]⟩ w1 (by decide))
  go_wp2_with fail
  refine HS.out.mono ?_
  rintro e w2 ⟨Bf, A2, c2, L2, rfl, ht2, hb2, hL2, hB2⟩
  have HF := Lib.hid (show Fg w1.heap.size Bf 0 w2 from ⟨_, _, 0, _, _, [], [], new_his ht2 hb2 hB2 (by decide), Nat.le_refl _, by simp, fun j s hj => by simp at hj, by decide, rfl⟩)
  have hb12 := below_tr HB1.out hb2 hz1
  clear ht2 hb2 hL2 hB2 HS
  go_wp2_with fail
  obtain ⟨nn, hnn⟩ : ∃ nn : Nat, 1000 + x % 4 = (nn : Int) := ⟨(1000 + x % 4).toNat, by omega⟩
  have hn0 : 1000 ≤ nn := by omega
  have hn1 : nn ≤ 1003 := by omega
  rw [hnn]
  generalize x % 4 = x4
  clear hnn hx0 hx1
  go_loopw [8] (fun i wr => ∃ (k : Nat), k ≤ nn ∧ i = .int .i64 k ∧ Hid (Fg w1.heap.size Bf k wr) ∧ Below w.heap.size w wr) (fun i _ => nn - (intOf i).toNat)
  case atStart => exact ⟨0, Nat.zero_le _, rfl, HF.out, hb12⟩
  case round =>
    clear HF hb12
    obtain ⟨k, hk, rfl, HF, hb⟩ := hrel
    by_cases hlt : k < nn
    · go_wp2_with fail
      refine (fg_splice _ _ _ _ HF.out (by omega)).mono ?_
      rintro e w3 ⟨rfl, hf3, hb3⟩
      have HF3 := Lib.hid hf3
      have hb3' := below_tr hb hb3 hz1
      clear hf3 hb3 HF hb
      go_wp2
      go_roundw
      case rel => exact ⟨k + 1, by omega, by go_num, HF3.out, hb3'⟩
      case measure => simp [intOf]; omega
    · have hkn : k = nn := by omega
      subst hkn
      obtain ⟨P, F, made, n, T, ps, fs, hh, hmd, hpl, hlc, hTl, hfs⟩ := HF.out
      have hp1000 : ps.length = 1000 := by omega
      have HH := Lib.hid hh; have HP := Lib.hid hp1000
      have HU := Lib.hid (show Un w1.heap.size Bf k 0 wr by
        exact ⟨P, F, made, n, T, ps, fs, hh, by omega, by rw [hfs]; simp, hlc, by omega⟩)
      clear hfs hh hmd hpl hlc hTl hp1000 HF
      go_wp2_with fail
      refine (his_past HH.out).mono ?_
      rintro e w3 ⟨rfl, rfl⟩
      rw [HP.out]
      clear HH HP
      go_wp2_with fail
      go_loopw [9] (fun u wq => ∃ (v : Nat), v ≤ 1000 ∧ u = .int .i64 v ∧ Hid (Un w1.heap.size Bf k v wq) ∧ Below w.heap.size w wq) (fun u _ => 1000 - (intOf u).toNat)
      case atStart => exact ⟨0, by omega, rfl, HU.out, hb⟩
      case round =>
        clear HU hb
        obtain ⟨v, hv, rfl, HU, hb⟩ := hrel
        obtain ⟨P, F, made, n, T, ps, fs, hh, hpl, hfl, hlc, hTl⟩ := HU.out
        have HH := Lib.hid hh; have HLC := Lib.hid hlc
        clear hh hlc HU
        cases ps with
        | cons st ps =>
          obtain ⟨l0, t0⟩ := st
          simp only [List.length_cons] at hpl
          obtain ⟨ht0, hlc0⟩ := HLC.out.tail
          go_wp2_with fail
          refine (undo_ok _ _ _ _ _ _ _ _ _ _ _ _ HH.out (by omega)).mono ?_
          rintro e w4 ⟨B, d, rfl, _, P', F', hbk⟩
          have hb4 := below_tr hb (hbk.below HH.out) hz1
          obtain ⟨n4, hh4, _⟩ := hbk
          have HU4 := Lib.hid (show Un w1.heap.size Bf k (v + 1) w4 from ⟨P', F', _, n4, t0, ps, _, hh4, by omega, by simp; omega, hlc0, by omega⟩)
          clear hh4 hlc0 HH HLC hb
          generalize l0.length = ll at *
          go_wp2
          go_roundw
          case rel => exact ⟨v + 1, by omega, by go_num, HU4.out, hb4⟩
          case measure => simp [intOf]; omega
        | nil =>
          have hv1 : v = 1000 := by simp at hpl; omega
          subst hv1
          go_wp2_with fail
          refine (undo_none _ _ _ _ _ _ _ _ _ HH.out).mono ?_
          rintro e w4 ⟨rfl, rfl⟩
          obtain ⟨M, hM⟩ : ∃ M : Nat, M = 1048577 := ⟨_, rfl⟩
          have hMi : (1048577 : Int) = (M : Int) := by omega
          have HM := Lib.hid hM
          clear hM
          go_wp2_with (at_make; refine wpList_make_full _ rfl _ _ 64 rfl w4.heap.size 5 i0 _ 1 Try.underlying64 HI.out HZ0.out HZ1.out .i64 .i64 1048577 1048577 M rfl rfl hMi hMi (by rw [HZ2.out, HM.out]; omega) (by rw [HM.out]; unfold maxLen; omega) (Nat.le_refl _) ?_)
          intro w5 hown5 hg5
          clear hMi
          have hb45 : Below w4.heap.size w4 w5 := (Below.refl _ w4).grown hg5 (Nat.le_refl _) (fun g hg => by cases hg)
          have hcv := zero_text w5 M hown5
          generalize hS5 : (⟨(List.replicate M (0 : UInt8)).toArray⟩ : ByteArray) = S5 at hcv
          have hS5z : S5.size = 1048577 := by rw [← hS5, repl_size, HM.out]
          have HH5 := Lib.hid (HH.out.below hb45)
          have hbl5 := below_tr hb hb45 hb.size
          clear hS5 hown5 hg5 hb45 HH hb
          go_wp2_with fail
          refine (new_long S5 w5 (by omega)).mono ?_
          rintro e w6 ⟨rfl, rfl⟩
          clear hcv hS5z HM
          obtain ⟨M2, hM2⟩ : ∃ M2 : Nat, M2 = 1048576 := ⟨_, rfl⟩
          have hMi : (1048576 : Int) = (M2 : Int) := by omega
          have HM2 := Lib.hid hM2
          clear hM2
          go_wp2_with (at_make; refine wpList_make_full _ rfl _ _ 64 rfl w6.heap.size 5 i0 _ 1 Try.underlying64 HI.out HZ0.out HZ1.out .i64 .i64 1048576 1048576 M2 rfl rfl hMi hMi (by rw [HZ2.out, HM2.out]; omega) (by rw [HM2.out]; unfold maxLen; omega) (Nat.le_refl _) ?_)
          intro w7 hown7 hg7
          clear hMi
          have hb67 : Below w6.heap.size w6 w7 := (Below.refl _ w6).grown hg7 (Nat.le_refl _) (fun g hg => by cases hg)
          have hcv := zero_text w7 M2 hown7
          generalize hS7 : (⟨(List.replicate M2 (0 : UInt8)).toArray⟩ : ByteArray) = S7 at hcv
          have hS7z : S7.size = 1048576 := by rw [← hS7, repl_size, HM2.out]
          have HH7 := Lib.hid (HH5.out.below hb67)
          have hbl7 := below_tr hbl5 hb67 hbl5.size
          clear hS7 hown7 hg7 hb67 HH5 hbl5
          go_wp2_with fail
          refine (new_any S7 w7 (by omega)).mono ?_
          rintro e w8 ⟨Bd, A8, c8, L8, rfl, ht8, hb8, _, hB8⟩
          have hST : S7.data.toList.length = 1048576 := by rw [← Lib.size_eq]; exact hS7z
          have HT8 := Lib.hid ht8; have HST := Lib.hid hST
          have HH8 := Lib.hid (HH7.out.below hb8)
          have hbl8 := below_tr hbl7 hb8 hbl7.size
          clear ht8 hb8 HH7 hbl7 hcv hS7z hB8 hST HM2
          obtain ⟨yn, rfl⟩ : ∃ yn : Nat, y = yn := ⟨y.toNat, by omega⟩
          have py : IntKind.i64.wrap ((yn : Int) + 1) = ((yn + 1 : Nat) : Int) := by rw [IntWalk.i64_in _ (by omega)]; omega
          obtain ⟨y1, hy1'⟩ : ∃ y1, y1 = yn + 1 := ⟨_, rfl⟩
          rw [← hy1'] at py
          have HY1 := Lib.hid hy1'
          have hy1b : y1 ≤ 1000 := by omega
          clear hy1'
          go_wp2_with (at_make; refine wpList_make_full _ rfl _ _ 64 rfl w8.heap.size 5 i0 _ 1 Try.underlying64 HI.out HZ0.out HZ1.out .i64 .i64 (y1 : Int) (y1 : Int) y1 rfl rfl rfl rfl (by rw [HZ2.out]; omega) (by unfold maxLen; omega) (Nat.le_refl _) ?_)
          intro w9 hown9 hg9
          have hb89 : Below w8.heap.size w8 w9 := (Below.refl _ w8).grown hg9 (Nat.le_refl _) (fun g hg => by cases hg)
          have hcv := zero_text w9 y1 hown9
          generalize hS9 : (⟨(List.replicate y1 (0 : UInt8)).toArray⟩ : ByteArray) = S9 at hcv
          have hS9z : S9.size = y1 := by rw [← hS9, repl_size]
          have HH9 := Lib.hid (HH8.out.below hb89)
          have HT9 := Lib.hid (HT8.out.kt (kt_below hb89) (HT8.out.bf.bl hb89))
          have hbl9 := below_tr hbl8 hb89 hbl8.size
          have HS9 := Lib.hid hS9z
          clear hS9 hown9 hg9 hb89 HH8 HT8 hbl8 py hS9z
          go_wp2_with fail
          refine (splice_of Bd 0 yn S9 w9 3 (fun w' => Below w9.heap.size w9 w') fun wa hba hEa => ?_).mono ?_
          · have hRa : rightB 0 S7.data.toList.length [(⟨0, yn, S9⟩ : Ed)] = true := by rw [right_one]; exact decide_eq_true ⟨by omega, by omega, by rw [HST.out]; omega⟩
            have hal := appl_len S7.data.toList [(⟨0, yn, S9⟩ : Ed)] 0 (Nat.zero_le _) hRa
            simp only [sumGr, Ed.gr] at hal
            refine (bap_long Bd _ _ _ _ _ _ _ _ _ _ 1 1 [⟨0, yn, S9⟩] wa (HT9.out.kt (kt_below hba) (HT9.out.bf.bl hba)) rfl (Nat.le_refl _) (by omega) (by omega) hEa hRa (by rw [HST.out]; omega) (by simp [tot, HS9.out]; omega) (by rw [HST.out, HS9.out] at hal; have := HY1.out; omega)).mono ?_
            rintro e wb ⟨rfl, hbb⟩
            exact ⟨rfl, below_tr hba hbb hba.size⟩
          rintro e w10 ⟨rfl, hb10⟩
          have HH10 := Lib.hid (HH9.out.below hb10)
          have HT10 := Lib.hid (HT9.out.kt (kt_below hb10) (HT9.out.bf.bl hb10))
          have hbl10 := below_tr hbl9 hb10 hbl9.size
          clear hb10 HH9 HT9 hbl9 hcv
          go_wp2_with fail
          refine (his_len HH10.out).mono ?_
          rintro e w11 ⟨rfl, rfl⟩
          have pT : (T.length : Int) = 1 + (k : Int) - 1000 := by omega
          rw [pT]
          clear pT
          have p7 : IntKind.i64.wrap (1 + (k : Int)) = 1 + (k : Int) := IntWalk.i64_in _ (by omega)
          have p8 : IntKind.i64.wrap (1 + (k : Int) - 1000) = 1 + (k : Int) - 1000 := IntWalk.i64_in _ (by omega)
          go_wp2_with fail
          refine (blen_any HT10.out.bf).mono ?_
          rintro e w12 ⟨rfl, rfl⟩
          rw [HST.out]
          go_wp2
          go_ret
          exact ⟨rfl, hbl10⟩
end Go.Proofs.Ytpifobaejmfppaa
