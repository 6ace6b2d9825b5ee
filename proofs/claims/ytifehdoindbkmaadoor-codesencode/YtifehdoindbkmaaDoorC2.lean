/- The law CodesEncode, walked. -/
import Derived.Test.YtifehdoindbkmaaDoorB3
import Derived.Test.YtifehdoindbkmaaDoorC1
namespace Go.Proofs.YtifehdoindbkmaaDoor
open Go.RowKit

theorem encV_yes {l : List Int} (h : l.all okN = true) : encV l = .tuple #[.string ⟨(flat l).toArray⟩, .bool true] := by unfold encV; rw [if_pos h]
theorem encV_no {l : List Int} (h : ¬ l.all okN = true) : encV l = .tuple #[.string ⟨#[]⟩, .bool false] := by unfold encV; rw [if_neg h]

/-- Code points' bytes are decoded to what they were: the whole of it. -/
theorem dec_all {l : List Int} (h : l.all okN = true) : dec (flat l) = (l, (flat l).length) := by
  have := dec_of_flat l [] (fun z hz => List.all_eq_true.1 h z hz)
  rw [List.append_nil] at this
  rw [this, dec_nil]
  simp

theorem intsAt_own {w : World} {B n c : Nat} {A : Option Addr} {l : List Int} (h : w.ownsRow B 3 1 (.slice A n c) n (l.map fun z => .int .i64 z)) : IntsAt w w.heap.size A l ∧ n ≤ c ∧ c ≤ 9223372036854775807 ∧ n = l.length := by
  obtain ⟨h1, h2⟩ := h
  rw [List.length_map, Nat.mul_one] at h1
  rcases h2 with ⟨hv, hn⟩ | ⟨g, cap, cur, hv, r1, r2, r3, r4, r5, r6⟩
  · simp at hv
    obtain ⟨rfl, rfl, rfl⟩ := hv
    have : l = [] := List.eq_nil_of_length_eq_zero h1
    subst this
    exact ⟨fun i z hz => by simp at hz, by omega, by omega, rfl⟩
  · simp at hv
    obtain ⟨rfl, rfl⟩ := hv
    refine ⟨fun i z hz => ⟨g, 0, rfl, (Array.getElem?_eq_some_iff.1 r2).1, ?_⟩, r3, by unfold maxLen at r4; omega, h1.symm⟩
    rw [Lib.cell_of_heap r2, Nat.zero_add]
    have h3 : (cur.toList.take (n * 1))[i]? = some (.int .i64 z) := by rw [r6, List.getElem?_map, hz]; rfl
    rw [List.getElem?_take] at h3
    split at h3
    · rw [← Array.getElem?_toList]; exact h3
    · cases h3

theorem app_bytes (a : List UInt8) (n : Nat) : (⟨a.toArray⟩ : ByteArray) ++ encS n = ⟨(a ++ enc n).toArray⟩ := by
  rw [← Lib.mk_data (_ ++ _), ByteArray.data_append, Array.toList_append]
  rfl

theorem decode_enc (S : ByteArray) (l : List Int) (len : Nat) (w : World) (hlen : l.length = len) (hS : S.data.toList = flat l) (hall : l.all okN = true) (hs : S.size ≤ 1000000) (hT : LenT w) :
    Calls Tryd.prog 22 #[.string S] w fun e w' => ∃ A c, e = .returned (.tuple #[.slice A len c, .int .i64 len, .int .i64 0]) ∧ IntsAt w' w'.heap.size A l ∧ len ≤ c ∧ c ≤ 9223372036854775807 ∧ Below w.heap.size w w' := by
  refine (decode_any S w hs hT).mono ?_
  rintro e w' ⟨hb, h⟩
  rw [hS, dec_all hall] at h
  have hsz : S.size = (flat l).length := by rw [Lib.size_eq, hS]
  rcases h with ⟨h1, _⟩ | ⟨_, A, c, he, hr⟩
  · simp only at h1; omega
  · simp only at he hr
    rw [hlen] at he hr
    obtain ⟨i1, i2, i3, _⟩ := intsAt_own hr
    exact ⟨A, c, he, i1, i2, i3, hb⟩

set_option maxRecDepth 100000 in
set_option maxHeartbeats 4000000 in
theorem law_encode (A : Option Addr) (len cap : Nat) (l : List Int) (w : World) (hlen : l.length = len) (hl : len ≤ cap) (hcap : cap ≤ 9223372036854775807) (hA : IntsAt w w.heap.size A l) (hT : LenT w) :
    Calls Tryd.prog 5 #[.slice A len cap] w (Fine w) := by
  by_cases h100 : 100 < len
  · go_enter Tryd.func5, Tryd.ntmps5
    go_wp2_with fail
    refine (awake_any _ hT).mono ?_
    rintro e w1 ⟨rfl, hb⟩
    go_wp2
    go_ret
    exact ⟨rfl, hb⟩
  · have hsm : len ≤ 100 := by omega
    have HL := Lib.hid hlen
    have HE := encode_any A len cap l w hlen hl hcap (by omega) hA hT
    by_cases hall : l.all okN = true
    · rw [encV_yes hall] at HE
      obtain ⟨S, hS⟩ : ∃ S : ByteArray, S = ⟨(flat l).toArray⟩ := ⟨_, rfl⟩
      have hSd : S.data.toList = flat l := by rw [hS]
      have hSs : S.size = (flat l).length := by rw [Lib.size_eq, hSd]
      have hfl := flat_len l
      rw [← hS] at HE
      have HSD := Lib.hid hSd; have HSS := Lib.hid hSs; have HALL := Lib.hid hall; have HS := Lib.hid hS
      have hss : S.size ≤ 400 := by omega
      clear hSd hSs hall hfl hlen hS
      go_enter Tryd.func5, Tryd.ntmps5
      go_wp2_with fail
      refine HE.mono ?_
      rintro e w1 ⟨rfl, hb1⟩
      clear HE
      go_wp2_with fail
      go_loopw [5, 6] (fun st i wr => ∃ j : Nat, j ≤ len ∧ i = .int .i64 j ∧ st = .string ⟨(flat (l.take j)).toArray⟩ ∧ Below w.heap.size w wr) (fun _ i _ => len - (intOf i).toNat)
      case atStart => exact ⟨0, by omega, rfl, rfl, hb1⟩
      case round =>
        obtain ⟨j, hj, rfl, rfl, hb⟩ := hrel
        by_cases hlt : j < len
        · obtain ⟨z, hz⟩ : ∃ z, l[j]? = some z := ⟨_, List.getElem?_eq_getElem (by rw [HL.out]; exact hlt)⟩
          obtain ⟨ab, ao, rfl, hab, hcell⟩ := (hA.below hb (Nat.le_refl _)) j z hz
          have hok : okN z = true := List.all_eq_true.1 HALL.out z (List.mem_of_getElem? hz)
          have hok' := okN_iff.1 hok
          have hz0 : 0 ≤ z := hok'.1
          have hz1 : z ≤ 1114111 := hok'.2.1
          have c20 := fun W => rright_any z W
          rw [hok] at c20
          have hts : l.take (j + 1) = l.take j ++ [z] := by rw [List.take_add_one, hz]; rfl
          have HF := Lib.hid (show flat (l.take (j + 1)) = flat (l.take j) ++ enc z.toNat by rw [hts, flat_snoc])
          clear hz hok hok' hts
          obtain ⟨T, hT0⟩ : ∃ T : ByteArray, T = ⟨(flat (l.take j)).toArray⟩ := ⟨_, rfl⟩
          rw [← hT0]
          have HT0 := Lib.hid hT0; clear hT0
          have hTs : T.size ≤ 400 := by
            rw [HT0.out, Lib.size_eq]; have := flat_len (l.take j); rw [List.length_take] at this; simp only; omega
          go_wp2_with fail
          refine (c20 _).mono ?_
          rintro e w2 ⟨rfl, rfl⟩
          go_wp2_with fail
          refine (rbytes_z z _ hz0 hz1).mono ?_
          rintro e w2 ⟨rfl, hb2⟩
          have hes : (encS z.toNat).size ≤ 4 := by rw [Lib.size_eq]; exact (enc_pos z.toNat).2
          have HB2 := Lib.hid (hb.trans (hb2.mono hb.size))
          clear hb2 c20
          go_wp2
          go_roundw
          case rel =>
            refine ⟨j + 1, by omega, by go_num, ?_, HB2.out⟩
            rw [HF.out, HT0.out, app_bytes]
          case measure => simp [intOf]; omega
        · have hTS : (⟨(flat (l.take j)).toArray⟩ : ByteArray) = S := by rw [HS.out, List.take_of_length_le (by rw [HL.out]; omega)]
          rw [hTS]
          clear hTS
          have hTr : LenT wr := hT.below hb hT.1
          have HD := decode_enc S l len wr HL.out HSD.out HALL.out (by omega) hTr
          have q0 : (S.toList == S.toList) = true := by simp
          go_wp2_with fail
          refine HD.mono ?_
          rintro e w2 ⟨A2, c2, rfl, hI2, hc2, hc2', hb2⟩
          have hb3 := hb.trans (hb2.mono hb.size)
          clear HD hb2
          go_wp2_with fail
          go_loopw [10] (fun i wq => ∃ j : Nat, j ≤ len ∧ i = .int .i64 j ∧ Below w2.heap.size w2 wq) (fun i _ => len - (intOf i).toNat)
          case atStart => exact ⟨0, by omega, rfl, Below.refl _ _⟩
          case round =>
            obtain ⟨k, hk, rfl, hbq⟩ := hrel
            by_cases hlt2 : k < len
            · obtain ⟨z, hz⟩ : ∃ z, l[k]? = some z := ⟨_, List.getElem?_eq_getElem (by rw [HL.out]; exact hlt2)⟩
              obtain ⟨ab, ao, rfl, hab, hcell⟩ := ((hA.below hb3 (Nat.le_refl _)).below hbq (hb3.size)) k z hz
              obtain ⟨ab2, ao2, rfl, hab2, hcell2⟩ := (hI2.below hbq (Nat.le_refl _)) k z hz
              have q1 : (z != z) = false := by simp
              have hk0 : (0 : Int) ≤ (k : Int) := by omega
              have hk1 : (k : Int) < (len : Int) := by omega
              clear hz
              go_wp2_with fail
              go_quiet (fail)
              go_wp2
              go_roundw
              case rel => exact ⟨k + 1, by omega, by go_num, below_drewN hbq _⟩
              case measure => simp [intOf]; omega
            · have hb4 := hb3.trans (hbq.mono hb3.size)
              have hTq : LenT _ := hT.below hb4 hT.1
              go_wp2_with fail
              refine (awake_any _ hTq).mono ?_
              rintro e w3 ⟨rfl, hb5⟩
              go_wp2
              go_ret
              exact ⟨rfl, hb4.trans (hb5.mono hb4.size)⟩
    · rw [encV_no hall] at HE
      have HALL := Lib.hid hall
      clear hall hlen
      go_enter Tryd.func5, Tryd.ntmps5
      go_wp2_with fail
      refine HE.mono ?_
      rintro e w1 ⟨rfl, hb1⟩
      clear HE
      go_wp2_with fail
      go_loopw [5, 6] (fun st i wr => ∃ (j : Nat) (T : ByteArray), j ≤ len ∧ i = .int .i64 j ∧ st = .string T ∧ T.size ≤ 4 * j ∧ Hid ((l.take j).all okN = true) ∧ Below w.heap.size w wr) (fun _ i _ => len - (intOf i).toNat)
      case atStart => exact ⟨0, ⟨#[]⟩, by omega, rfl, rfl, by show 0 ≤ _; omega, rfl, hb1⟩
      case round =>
        obtain ⟨j, T, hj, rfl, rfl, hTs, HO, hb⟩ := hrel
        by_cases hlt : j < len
        · obtain ⟨z, hz⟩ : ∃ z, l[j]? = some z := ⟨_, List.getElem?_eq_getElem (by rw [HL.out]; exact hlt)⟩
          obtain ⟨ab, ao, rfl, hab, hcell⟩ := (hA.below hb (Nat.le_refl _)) j z hz
          have c20 := fun W => rright_any z W
          have HZ := Lib.hid hz; clear hz
          cases hok : okN z with
          | true =>
            have hok' := okN_iff.1 hok
            have hz0 : 0 ≤ z := hok'.1
            have hz1 : z ≤ 1114111 := hok'.2.1
            rw [hok] at c20
            have HO1 : Hid ((l.take (j + 1)).all okN = true) := by
              show _ = _
              rw [List.take_add_one, HZ.out, List.all_append, HO.out]; simp [hok]
            clear hok hok'
            go_wp2_with fail
            refine (c20 _).mono ?_
            rintro e w2 ⟨rfl, rfl⟩
            go_wp2_with fail
            refine (rbytes_z z _ hz0 hz1).mono ?_
            rintro e w2 ⟨rfl, hb2⟩
            have hes : (encS z.toNat).size ≤ 4 := by rw [Lib.size_eq]; exact (enc_pos z.toNat).2
            have HB2 := Lib.hid (hb.trans (hb2.mono hb.size))
            clear hb2 c20
            go_wp2
            go_roundw
            case rel => exact ⟨j + 1, _, by omega, by go_num, rfl, by rw [ByteArray.size_append]; omega, HO1.out, HB2.out⟩
            case measure => simp [intOf]; omega
          | false =>
            rw [hok] at c20
            clear hok
            have hTr : LenT wr := hT.below hb hT.1
            go_wp2_with fail
            refine (c20 _).mono ?_
            rintro e w2 ⟨rfl, rfl⟩
            go_wp2_with fail
            refine (awake_any _ hTr).mono ?_
            rintro e w3 ⟨rfl, hb5⟩
            go_wp2
            go_ret
            exact ⟨rfl, hb.trans (hb5.mono hb.size)⟩
        · exfalso
          apply HALL.out
          have := HO.out
          rwa [List.take_of_length_le (by rw [HL.out]; omega)] at this
end Go.Proofs.YtifehdoindbkmaaDoor
