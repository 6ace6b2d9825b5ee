/- What codes.put does: a code point's bytes, written. -/
import Derived.Test.YtifehdoindbkmaaDoorA6
import Derived.Test.YtifehdoindbkmaaDoorShelf
namespace Go.Proofs.YtifehdoindbkmaaDoor
open Go.RowKit

/-- n is none of the first j rows' code points. -/
def NoCode (j : Nat) (n : Int) : Prop := ∀ lo hi mk top k, k < j → (lo, hi, mk, top, k) ∈ tab → isCodeB lo hi n = false
theorem tab_one' {lo hi mk top lo' hi' mk' top' : Int} {k : Nat} (h : (lo, hi, mk, top, k) ∈ tab) (h' : (lo', hi', mk', top', k) ∈ tab) : lo = lo' ∧ hi = hi' := by
  unfold tab at h h'
  simp only [List.mem_cons, Prod.mk.injEq, List.not_mem_nil, or_false] at h h'
  omega
theorem NoCode.succ {lo hi mk top : Int} {j : Nat} {n : Int} (h : NoCode j n) (hm : (lo, hi, mk, top, j) ∈ tab) (hl : isCodeB lo hi n = false) : NoCode (j + 1) n := by
  intro lo' hi' mk' top' k hk hm'
  by_cases e : k = j
  · subst e
    obtain ⟨rfl, rfl⟩ := tab_one' hm hm'
    exact hl
  · exact h lo' hi' mk' top' k (by omega) hm'
theorem nocode_all {n : Int} (h : NoCode 4 n) : okN n = false := by
  have h0 := h 0 127 0 127 0 (by omega) (by simp [tab])
  have h1 := h 128 2047 192 223 1 (by omega) (by simp [tab])
  have h2 := h 2048 65535 224 239 2 (by omega) (by simp [tab])
  have h3 := h 65536 1114111 240 244 3 (by omega) (by simp [tab])
  simp only [isCodeB, decide_eq_false_iff_not] at h0 h1 h2 h3
  rw [okN, decide_eq_false_iff_not]
  omega

theorem code_ok {lo hi mk top : Int} {k : Nat} {n : Int} (h : (lo, hi, mk, top, k) ∈ tab) (hc : isCodeB lo hi n = true) : okN n = true := by
  unfold tab at h
  simp only [List.mem_cons, Prod.mk.injEq, List.not_mem_nil, or_false] at h
  unfold isCodeB at hc
  rw [decide_eq_true_eq] at hc
  rw [okN_iff]
  omega

theorem and63 (x : Int) (h : 0 ≤ x) (h2 : x ≤ 1099511627776) : bits .and .i64 x 63 = x % 64 := by
  obtain ⟨a, rfl⟩ := Int.eq_ofNat_of_zero_le h
  have h1 : (BitVec.ofInt 64 (a : Int)).toNat = a := by
    rw [BitVec.ofInt_natCast, BitVec.toNat_ofNat]; exact Nat.mod_eq_of_lt (by omega)
  have h3 : (BitVec.ofInt 64 (63 : Int)).toNat = 63 := by decide
  show IntKind.i64.wrap ((BitVec.ofInt 64 (a : Int) &&& BitVec.ofInt 64 (63 : Int)).toNat : Int) = _
  rw [BitVec.toNat_and, h1, h3, Nat.and_two_pow_sub_one_eq_mod a 6, IntKind.wrap_i64]
  omega

theorem snoc_cells (l t : List UInt8) (m : Nat) (z : Int) (hz : (m : Int) = z) (hm : m < 256) : Lib.byteCells (l ++ t) ++ [.int .u8 z] = Lib.byteCells (l ++ (t ++ [UInt8.ofNat m])) := by
  rw [← List.append_assoc, Lib.byteCells_append (l ++ t)]
  simp only [Lib.byteCells, List.map_cons, List.map_nil]
  rw [u8_nat m hm, hz]

/-- A builder stays one where blocks are only laid behind. -/
theorem isb_below {B b : Nat} {bs : List Value} {w w' : World} (h : Lib.IsBuilderF 71 5 B b bs w) (hb : Below w.heap.size w w') : Lib.IsBuilderF 71 5 B b bs w' := by
  have hk : ∀ (k : Nat) (o : Obj), w.heap[k]? = some o → w'.heap[k]? = some o := fun k o hko => (hb.block k (Array.getElem?_eq_some_iff.1 hko).1).trans hko
  have go : ∀ p, Lib.BuilderAtF 71 5 B b p bs w → Lib.BuilderAtF 71 5 B b p bs w' := by
    rintro p ⟨h1, v, h2, h3, h4⟩
    refine ⟨h1, v, hk _ _ h2, ?_, h4⟩
    obtain ⟨a1, a2⟩ := h3
    refine ⟨a1, a2.imp id ?_⟩
    rintro ⟨g, cap, cur, fz, rfl, r1, r2, r3⟩
    exact ⟨g, cap, cur, fz, rfl, r1, hk _ _ r2, r3⟩
  exact h.imp (go _) (go _)

/-- What put leaves: whether n is a code point; if it is, its bytes are written. -/
def PutAt (B b : Nat) (l : List UInt8) (n : Int) (w : World) (e : Ending) (w' : World) : Prop :=
  e = .returned (.bool (okN n)) ∧ Lib.IsBuilderF 71 5 B b (Lib.byteCells (l ++ if okN n = true then enc n.toNat else [])) w' ∧ Below B w w'

set_option maxRecDepth 100000 in
set_option maxHeartbeats 2000000 in
theorem put_any (B b : Nat) (l : List UInt8) (n : Int) (w : World) (hT : LenT w) (_hB : 0 < B) (hBw : B ≤ w.heap.size) (hI : Lib.IsBuilderF 71 5 B b (Lib.byteCells l) w) (hl : l.length ≤ 1099511627776) :
    Calls Tryd.prog 38 #[.pointer (some ⟨b, 0, none⟩), .int .i64 n] w (PutAt B b l n w) := by
  obtain ⟨tt, fr, hg⟩ := hT.2
  obtain ⟨lc, hlc⟩ : ∃ lc, lc = lenC := ⟨_, rfl⟩
  have hsz : (Tryd.prog.info? 77).map (·.size) = some lc.size := by rw [hlc]; kernel_rfl
  rw [← hlc] at hg
  have HLC := Lib.hid hlc; clear hlc
  have HI := Lib.hid hI; clear hI
  go_enter Tryd.func38, Tryd.ntmps38
  go_wp2_with (refine wpList_load_row rfl 77 _ rfl 0 rfl tt _ fr _ hg Tryd.underlying77 rfl hsz ?_)
  clear hg hsz
  go_loopw [9] (fun i wr => ∃ j : Nat, j ≤ 4 ∧ i = .int .i64 j ∧ Hid (NoCode j n) ∧ Hid (Lib.IsBuilderF 71 5 B b (Lib.byteCells l) wr) ∧ Below B w wr) (fun i _ => 4 - (intOf i).toNat)
  case atStart => exact ⟨0, by omega, rfl, fun _ _ _ _ _ h => absurd h (Nat.not_lt_zero _), HI.out, Below.refl _ _⟩
  case round =>
    obtain ⟨j, hj, rfl, HN, HIr, hb⟩ := hrel
    by_cases hlt : j < 4
    · obtain ⟨lo, hi, mk, top, hm, hidx⟩ := tab_row j hlt
      rw [← HLC.out] at hidx
      have HM := Lib.hid hm
      obtain ⟨b1, b2, b3, b4, b5⟩ := tab_bd hm
      clear hm
      have hz := hb.size
      go_wp2_with fail
      refine (isCode_any lo hi mk n _).mono ?_
      rintro e w1 ⟨rfl, hb1⟩
      have c0 : w1.cell? ⟨wr.heap.size, 0, none⟩ = some (.int .i64 lo) := (hb1.cell (p := ⟨wr.heap.size, 0, none⟩) (by simp)).trans (by simp [go_sem])
      have c1 : w1.cell? ⟨wr.heap.size, 1, none⟩ = some (.int .i64 hi) := (hb1.cell (p := ⟨wr.heap.size, 1, none⟩) (by simp)).trans (by simp [go_sem])
      have c2 : w1.cell? ⟨wr.heap.size, 2, none⟩ = some (.int .i64 mk) := (hb1.cell (p := ⟨wr.heap.size, 2, none⟩) (by simp)).trans (by simp [go_sem])
      have hb2 : Below wr.heap.size wr w1 := ((Below.refl wr.heap.size wr).alloc (Nat.le_refl _) _).trans (hb1.mono (by simp))
      have HB2 := Lib.hid hb2
      have HI1 : Hid (Lib.IsBuilderF 71 5 B b (Lib.byteCells l) w1) := isb_below HIr.out hb2
      have hz1 : wr.heap.size < w1.heap.size := by have := hb1.size; simp at this; omega
      clear hb1 hidx hb2
      cases hco : isCodeB lo hi n with
      | false =>
        have HLd := Lib.hid hco; clear hco
        go_wp2
        go_roundw
        case rel =>
          exact ⟨j + 1, by omega, by go_num, HN.out.succ HM.out HLd.out, HI1.out, hb.trans (HB2.out.mono (by omega))⟩
        case measure => simp [intOf]; omega
      | true =>
        have HLd := Lib.hid hco
        have hm := HM.out
        unfold tab at hm
        simp only [List.mem_cons, Prod.mk.injEq, List.not_mem_nil, or_false] at hm
        have hd : lo ≤ n ∧ n ≤ hi := by unfold isCodeB at hco; simp at hco; omega
        clear hco
        rcases hm with ⟨rfl, rfl, rfl, rfl, rfl⟩ | ⟨rfl, rfl, rfl, rfl, rfl⟩ | ⟨rfl, rfl, rfl, rfl, rfl⟩ | ⟨rfl, rfl, rfl, rfl, rfl⟩
        · obtain ⟨d1, d2⟩ := hd
          have hE : enc n.toNat = [UInt8.ofNat (n.toNat)] := by unfold enc; rw [if_pos (by omega)]
          have hok : okN n = true := code_ok HM.out HLd.out
          have HE := Lib.hid hE; have HOK := Lib.hid hok
          clear hE hok
          have HW := fun c => Tryd.Builder_WriteByte_k B b (Lib.byteCells l) c w1.drew HI1.out (by rw [Lib.byteCells_length]; omega) (by show B ≤ w1.heap.size; omega)
          have e1 : IntKind.i64.wrap 0 = 0 := by decide
          have e2 : IntKind.i64.wrap (n) = n := IntWalk.i64_in _ (by omega)
          have e3 : IntKind.u8.wrap (n) = n := IntWalk.u8_in _ (by omega)
          go_wp2
          go_region_with (go_at_call 59; (with_reducible refine (HW _).mono ?_); rintro e w2 ⟨rfl, hA, hb3, hok⟩)
          all_goals
            have HA : Hid (Lib.IsBuilderF 71 5 B b (Lib.byteCells (l ++ (enc n.toNat).take 1)) w2) := by
              refine .inr ?_
              have hs := snoc_cells l [] (n.toNat) (n) (by omega) (by omega)
              rw [List.append_nil] at hs
              try rw [e3] at hA
              rw [hs] at hA
              rw [HE.out]
              exact hA
            have hB2 : Below B w w2 := (hb.trans (HB2.out.mono (by omega))).trans (((Below.refl B w1).drew).trans hb3)
            clear hA hb3 hok e3 c0 c1 c2 e1 e2 HW
            go_wp2_with fail
            go_loopw [7] (fun sh wq => ∃ i : Nat, i ≤ 0 ∧ sh = .int .i64 (6 * (i : Int) - 6) ∧ Hid (Lib.IsBuilderF 71 5 B b (Lib.byteCells (l ++ (enc n.toNat).take (1 + 0 - i))) wq) ∧ Below B w wq) (fun sh _ => (intOf sh + 6).toNat)
            case atStart => exact ⟨0, by omega, rfl, HA.out, hB2⟩
            case round =>
              obtain ⟨i, hi, rfl, HAi, hbi⟩ := hrel
              match i, hi with
              | 0, _ =>
                go_wp2
                go_ret
                refine ⟨by rw [HOK.out]; rfl, ?_, hbi⟩
                rw [if_pos HOK.out]
                have := HAi.out
                rw [HE.out] at this ⊢
                exact this
        · obtain ⟨d1, d2⟩ := hd
          have hE : enc n.toNat = [UInt8.ofNat (192 + n.toNat / 64), UInt8.ofNat (128 + n.toNat % 64)] := by unfold enc; rw [if_neg (by omega), if_pos (by omega)]
          have hok : okN n = true := code_ok HM.out HLd.out
          have HE := Lib.hid hE; have HOK := Lib.hid hok
          clear hE hok
          have HW := fun c => Tryd.Builder_WriteByte_k B b (Lib.byteCells l) c w1.drew HI1.out (by rw [Lib.byteCells_length]; omega) (by show B ≤ w1.heap.size; omega)
          have e1 : IntKind.i64.wrap 6 = 6 := by decide
          have e2 : IntKind.i64.wrap (192 + n / 64) = 192 + n / 64 := IntWalk.i64_in _ (by omega)
          have e3 : IntKind.u8.wrap (192 + n / 64) = 192 + n / 64 := IntWalk.u8_in _ (by omega)
          go_wp2
          go_region_with (go_at_call 59; (with_reducible refine (HW _).mono ?_); rintro e w2 ⟨rfl, hA, hb3, hok⟩)
          all_goals
            have HA : Hid (Lib.IsBuilderF 71 5 B b (Lib.byteCells (l ++ (enc n.toNat).take 1)) w2) := by
              refine .inr ?_
              have hs := snoc_cells l [] (192 + n.toNat / 64) (192 + n / 64) (by omega) (by omega)
              rw [List.append_nil] at hs
              try rw [e3] at hA
              rw [hs] at hA
              rw [HE.out]
              exact hA
            have hB2 : Below B w w2 := (hb.trans (HB2.out.mono (by omega))).trans (((Below.refl B w1).drew).trans hb3)
            clear hA hb3 hok e3 c0 c1 c2 e1 e2 HW
            go_wp2_with fail
            go_loopw [7] (fun sh wq => ∃ i : Nat, i ≤ 1 ∧ sh = .int .i64 (6 * (i : Int) - 6) ∧ Hid (Lib.IsBuilderF 71 5 B b (Lib.byteCells (l ++ (enc n.toNat).take (1 + 1 - i))) wq) ∧ Below B w wq) (fun sh _ => (intOf sh + 6).toNat)
            case atStart => exact ⟨1, by omega, rfl, HA.out, hB2⟩
            case round =>
              obtain ⟨i, hi, rfl, HAi, hbi⟩ := hrel
              match i, hi with
              | 0, _ =>
                go_wp2
                go_ret
                refine ⟨by rw [HOK.out]; rfl, ?_, hbi⟩
                rw [if_pos HOK.out]
                have := HAi.out
                rw [HE.out] at this ⊢
                exact this
              | 1, hi =>
                have HW := fun c => Tryd.Builder_WriteByte_k B b (Lib.byteCells (l ++ (enc n.toNat).take (1 + 1 - 1))) c wr HAi.out (by rw [Lib.byteCells_length, List.length_append, HE.out]; simp; omega) (by have := hbi.size; omega)
                have e1 := and63 (n) (by omega) (by omega)
                have e2 : IntKind.i64.wrap (128 + n % 64) = 128 + n % 64 := IntWalk.i64_in _ (by omega)
                have e3 : IntKind.u8.wrap (128 + n % 64) = 128 + n % 64 := IntWalk.u8_in _ (by omega)
                go_wp2_with fail
                refine (HW _).mono ?_
                rintro e w3 ⟨rfl, hA, hb3, _⟩
                have HA3 : Hid (Lib.IsBuilderF 71 5 B b (Lib.byteCells (l ++ (enc n.toNat).take (1 + 1 - 0))) w3) := by
                  refine .inr ?_
                  rw [HE.out] at hA ⊢
                  rw [snoc_cells l _ (128 + n.toNat % 64) _ (by omega) (by omega)] at hA
                  exact hA
                clear hA HW e1 e2 e3
                go_wp2
                go_roundw
                case rel => exact ⟨0, by omega, by first | rfl | go_num, HA3.out, hbi.trans hb3⟩
                case measure => simp [intOf]
        · obtain ⟨d1, d2⟩ := hd
          have hE : enc n.toNat = [UInt8.ofNat (224 + n.toNat / 4096), UInt8.ofNat (128 + n.toNat / 64 % 64), UInt8.ofNat (128 + n.toNat % 64)] := by unfold enc; rw [if_neg (by omega), if_neg (by omega), if_pos (by omega)]
          have hok : okN n = true := code_ok HM.out HLd.out
          have HE := Lib.hid hE; have HOK := Lib.hid hok
          clear hE hok
          have HW := fun c => Tryd.Builder_WriteByte_k B b (Lib.byteCells l) c w1.drew HI1.out (by rw [Lib.byteCells_length]; omega) (by show B ≤ w1.heap.size; omega)
          have e1 : IntKind.i64.wrap 12 = 12 := by decide
          have e2 : IntKind.i64.wrap (224 + n / 4096) = 224 + n / 4096 := IntWalk.i64_in _ (by omega)
          have e3 : IntKind.u8.wrap (224 + n / 4096) = 224 + n / 4096 := IntWalk.u8_in _ (by omega)
          go_wp2
          go_region_with (go_at_call 59; (with_reducible refine (HW _).mono ?_); rintro e w2 ⟨rfl, hA, hb3, hok⟩)
          all_goals
            have HA : Hid (Lib.IsBuilderF 71 5 B b (Lib.byteCells (l ++ (enc n.toNat).take 1)) w2) := by
              refine .inr ?_
              have hs := snoc_cells l [] (224 + n.toNat / 4096) (224 + n / 4096) (by omega) (by omega)
              rw [List.append_nil] at hs
              try rw [e3] at hA
              rw [hs] at hA
              rw [HE.out]
              exact hA
            have hB2 : Below B w w2 := (hb.trans (HB2.out.mono (by omega))).trans (((Below.refl B w1).drew).trans hb3)
            clear hA hb3 hok e3 c0 c1 c2 e1 e2 HW
            go_wp2_with fail
            go_loopw [7] (fun sh wq => ∃ i : Nat, i ≤ 2 ∧ sh = .int .i64 (6 * (i : Int) - 6) ∧ Hid (Lib.IsBuilderF 71 5 B b (Lib.byteCells (l ++ (enc n.toNat).take (1 + 2 - i))) wq) ∧ Below B w wq) (fun sh _ => (intOf sh + 6).toNat)
            case atStart => exact ⟨2, by omega, rfl, HA.out, hB2⟩
            case round =>
              obtain ⟨i, hi, rfl, HAi, hbi⟩ := hrel
              match i, hi with
              | 0, _ =>
                go_wp2
                go_ret
                refine ⟨by rw [HOK.out]; rfl, ?_, hbi⟩
                rw [if_pos HOK.out]
                have := HAi.out
                rw [HE.out] at this ⊢
                exact this
              | 1, hi =>
                have HW := fun c => Tryd.Builder_WriteByte_k B b (Lib.byteCells (l ++ (enc n.toNat).take (1 + 2 - 1))) c wr HAi.out (by rw [Lib.byteCells_length, List.length_append, HE.out]; simp; omega) (by have := hbi.size; omega)
                have e1 := and63 (n) (by omega) (by omega)
                have e2 : IntKind.i64.wrap (128 + n % 64) = 128 + n % 64 := IntWalk.i64_in _ (by omega)
                have e3 : IntKind.u8.wrap (128 + n % 64) = 128 + n % 64 := IntWalk.u8_in _ (by omega)
                go_wp2_with fail
                refine (HW _).mono ?_
                rintro e w3 ⟨rfl, hA, hb3, _⟩
                have HA3 : Hid (Lib.IsBuilderF 71 5 B b (Lib.byteCells (l ++ (enc n.toNat).take (1 + 2 - 0))) w3) := by
                  refine .inr ?_
                  rw [HE.out] at hA ⊢
                  rw [snoc_cells l _ (128 + n.toNat % 64) _ (by omega) (by omega)] at hA
                  exact hA
                clear hA HW e1 e2 e3
                go_wp2
                go_roundw
                case rel => exact ⟨0, by omega, by first | rfl | go_num, HA3.out, hbi.trans hb3⟩
                case measure => simp [intOf]
              | 2, hi =>
                have HW := fun c => Tryd.Builder_WriteByte_k B b (Lib.byteCells (l ++ (enc n.toNat).take (1 + 2 - 2))) c wr HAi.out (by rw [Lib.byteCells_length, List.length_append, HE.out]; simp; omega) (by have := hbi.size; omega)
                have e1 := and63 (n / 64) (by omega) (by omega)
                have e2 : IntKind.i64.wrap (128 + n / 64 % 64) = 128 + n / 64 % 64 := IntWalk.i64_in _ (by omega)
                have e3 : IntKind.u8.wrap (128 + n / 64 % 64) = 128 + n / 64 % 64 := IntWalk.u8_in _ (by omega)
                go_wp2_with fail
                refine (HW _).mono ?_
                rintro e w3 ⟨rfl, hA, hb3, _⟩
                have HA3 : Hid (Lib.IsBuilderF 71 5 B b (Lib.byteCells (l ++ (enc n.toNat).take (1 + 2 - 1))) w3) := by
                  refine .inr ?_
                  rw [HE.out] at hA ⊢
                  rw [snoc_cells l _ (128 + n.toNat / 64 % 64) _ (by omega) (by omega)] at hA
                  exact hA
                clear hA HW e1 e2 e3
                go_wp2
                go_roundw
                case rel => exact ⟨1, by omega, by first | rfl | go_num, HA3.out, hbi.trans hb3⟩
                case measure => simp [intOf]
        · obtain ⟨d1, d2⟩ := hd
          have hE : enc n.toNat = [UInt8.ofNat (240 + n.toNat / 262144), UInt8.ofNat (128 + n.toNat / 4096 % 64), UInt8.ofNat (128 + n.toNat / 64 % 64), UInt8.ofNat (128 + n.toNat % 64)] := by unfold enc; rw [if_neg (by omega), if_neg (by omega), if_neg (by omega)]
          have hok : okN n = true := code_ok HM.out HLd.out
          have HE := Lib.hid hE; have HOK := Lib.hid hok
          clear hE hok
          have HW := fun c => Tryd.Builder_WriteByte_k B b (Lib.byteCells l) c w1.drew HI1.out (by rw [Lib.byteCells_length]; omega) (by show B ≤ w1.heap.size; omega)
          have e1 : IntKind.i64.wrap 18 = 18 := by decide
          have e2 : IntKind.i64.wrap (240 + n / 262144) = 240 + n / 262144 := IntWalk.i64_in _ (by omega)
          have e3 : IntKind.u8.wrap (240 + n / 262144) = 240 + n / 262144 := IntWalk.u8_in _ (by omega)
          go_wp2
          go_region_with (go_at_call 59; (with_reducible refine (HW _).mono ?_); rintro e w2 ⟨rfl, hA, hb3, hok⟩)
          all_goals
            have HA : Hid (Lib.IsBuilderF 71 5 B b (Lib.byteCells (l ++ (enc n.toNat).take 1)) w2) := by
              refine .inr ?_
              have hs := snoc_cells l [] (240 + n.toNat / 262144) (240 + n / 262144) (by omega) (by omega)
              rw [List.append_nil] at hs
              try rw [e3] at hA
              rw [hs] at hA
              rw [HE.out]
              exact hA
            have hB2 : Below B w w2 := (hb.trans (HB2.out.mono (by omega))).trans (((Below.refl B w1).drew).trans hb3)
            clear hA hb3 hok e3 c0 c1 c2 e1 e2 HW
            go_wp2_with fail
            go_loopw [7] (fun sh wq => ∃ i : Nat, i ≤ 3 ∧ sh = .int .i64 (6 * (i : Int) - 6) ∧ Hid (Lib.IsBuilderF 71 5 B b (Lib.byteCells (l ++ (enc n.toNat).take (1 + 3 - i))) wq) ∧ Below B w wq) (fun sh _ => (intOf sh + 6).toNat)
            case atStart => exact ⟨3, by omega, rfl, HA.out, hB2⟩
            case round =>
              obtain ⟨i, hi, rfl, HAi, hbi⟩ := hrel
              match i, hi with
              | 0, _ =>
                go_wp2
                go_ret
                refine ⟨by rw [HOK.out]; rfl, ?_, hbi⟩
                rw [if_pos HOK.out]
                have := HAi.out
                rw [HE.out] at this ⊢
                exact this
              | 1, hi =>
                have HW := fun c => Tryd.Builder_WriteByte_k B b (Lib.byteCells (l ++ (enc n.toNat).take (1 + 3 - 1))) c wr HAi.out (by rw [Lib.byteCells_length, List.length_append, HE.out]; simp; omega) (by have := hbi.size; omega)
                have e1 := and63 (n) (by omega) (by omega)
                have e2 : IntKind.i64.wrap (128 + n % 64) = 128 + n % 64 := IntWalk.i64_in _ (by omega)
                have e3 : IntKind.u8.wrap (128 + n % 64) = 128 + n % 64 := IntWalk.u8_in _ (by omega)
                go_wp2_with fail
                refine (HW _).mono ?_
                rintro e w3 ⟨rfl, hA, hb3, _⟩
                have HA3 : Hid (Lib.IsBuilderF 71 5 B b (Lib.byteCells (l ++ (enc n.toNat).take (1 + 3 - 0))) w3) := by
                  refine .inr ?_
                  rw [HE.out] at hA ⊢
                  rw [snoc_cells l _ (128 + n.toNat % 64) _ (by omega) (by omega)] at hA
                  exact hA
                clear hA HW e1 e2 e3
                go_wp2
                go_roundw
                case rel => exact ⟨0, by omega, by first | rfl | go_num, HA3.out, hbi.trans hb3⟩
                case measure => simp [intOf]
              | 2, hi =>
                have HW := fun c => Tryd.Builder_WriteByte_k B b (Lib.byteCells (l ++ (enc n.toNat).take (1 + 3 - 2))) c wr HAi.out (by rw [Lib.byteCells_length, List.length_append, HE.out]; simp; omega) (by have := hbi.size; omega)
                have e1 := and63 (n / 64) (by omega) (by omega)
                have e2 : IntKind.i64.wrap (128 + n / 64 % 64) = 128 + n / 64 % 64 := IntWalk.i64_in _ (by omega)
                have e3 : IntKind.u8.wrap (128 + n / 64 % 64) = 128 + n / 64 % 64 := IntWalk.u8_in _ (by omega)
                go_wp2_with fail
                refine (HW _).mono ?_
                rintro e w3 ⟨rfl, hA, hb3, _⟩
                have HA3 : Hid (Lib.IsBuilderF 71 5 B b (Lib.byteCells (l ++ (enc n.toNat).take (1 + 3 - 1))) w3) := by
                  refine .inr ?_
                  rw [HE.out] at hA ⊢
                  rw [snoc_cells l _ (128 + n.toNat / 64 % 64) _ (by omega) (by omega)] at hA
                  exact hA
                clear hA HW e1 e2 e3
                go_wp2
                go_roundw
                case rel => exact ⟨1, by omega, by first | rfl | go_num, HA3.out, hbi.trans hb3⟩
                case measure => simp [intOf]
              | 3, hi =>
                have HW := fun c => Tryd.Builder_WriteByte_k B b (Lib.byteCells (l ++ (enc n.toNat).take (1 + 3 - 3))) c wr HAi.out (by rw [Lib.byteCells_length, List.length_append, HE.out]; simp; omega) (by have := hbi.size; omega)
                have e1 := and63 (n / 4096) (by omega) (by omega)
                have e2 : IntKind.i64.wrap (128 + n / 4096 % 64) = 128 + n / 4096 % 64 := IntWalk.i64_in _ (by omega)
                have e3 : IntKind.u8.wrap (128 + n / 4096 % 64) = 128 + n / 4096 % 64 := IntWalk.u8_in _ (by omega)
                go_wp2_with fail
                refine (HW _).mono ?_
                rintro e w3 ⟨rfl, hA, hb3, _⟩
                have HA3 : Hid (Lib.IsBuilderF 71 5 B b (Lib.byteCells (l ++ (enc n.toNat).take (1 + 3 - 2))) w3) := by
                  refine .inr ?_
                  rw [HE.out] at hA ⊢
                  rw [snoc_cells l _ (128 + n.toNat / 4096 % 64) _ (by omega) (by omega)] at hA
                  exact hA
                clear hA HW e1 e2 e3
                go_wp2
                go_roundw
                case rel => exact ⟨2, by omega, by first | rfl | go_num, HA3.out, hbi.trans hb3⟩
                case measure => simp [intOf]
    · have h4 : j = 4 := by omega
      have hn : okN n = false := nocode_all (h4 ▸ HN.out)
      have HQ := Lib.hid hn
      clear hn h4
      go_wp2
      go_ret
      exact ⟨by rw [HQ.out]; rfl, by rw [HQ.out]; simpa using HIr.out, hb⟩
end Go.Proofs.YtifehdoindbkmaaDoor
