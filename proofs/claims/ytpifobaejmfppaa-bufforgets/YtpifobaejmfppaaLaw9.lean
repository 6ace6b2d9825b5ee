/- The law BufLooks. -/
import Derived.Test.YtpifobaejmfppaaN21
import Derived.Test.YtpifobaejmfppaaOpen2
import Derived.Deep.RegionHeld3
namespace Go.Proofs.Ytpifobaejmfppaa
open Go.RowKit

theorem great_no {l : List Ac} (h : greatA l = false) : l.length ≤ 60 ∧ ∀ a ∈ l, a.s.size ≤ 100 ∧ greatB a.l = false := by
  rw [greatA, Bool.or_eq_false_iff] at h
  obtain ⟨h1, h2⟩ := h
  refine ⟨by simpa using h2, fun a ha => ?_⟩
  have := (List.any_eq_false.1 h1) a ha
  simp at this
  exact ⟨this.1, by simpa using this.2⟩

theorem appl_one_le (T : List UInt8) (e : Ed) (h : rightB 0 T.length [e] = true) : (appl T 0 [e]).length ≤ T.length + e.s.size := by
  have := appl_len T [e] 0 (Nat.zero_le _) h
  simp only [sumGr, Ed.gr] at this
  omega

theorem byte_at' {S : ByteArray} {T : List UInt8} {x : Nat} (h : S.data.toList = T) (hx : x < S.size) : T[x]? = some (S[x]'hx) := by
  subst h
  have hx' : x < S.data.size := hx
  simp only [Array.getElem?_toList]
  exact Array.getElem?_eq_getElem hx'

/-- What a buffer is, k acts behind New. -/
def Buf1 (N Bf k : Nat) (T : List UInt8) (wr : World) : Prop :=
  ∃ P F made n ps fs, HisAt wr N Bf P F made n T ps fs ∧ made ≤ 30 * k ∧ ps.length ≤ k ∧ T.length ≤ 300 + 3000 * k

theorem Buf1.more {N Bf k k' : Nat} {T : List UInt8} {w : World} (h : Buf1 N Bf k T w) (hk : k ≤ k') : Buf1 N Bf k' T w := by
  obtain ⟨P, F, made, n, ps, fs, h1, h2, h3, h4⟩ := h
  exact ⟨P, F, made, n, ps, fs, h1, by omega, by omega, by omega⟩
theorem Buf1.below {N Bf k : Nat} {T : List UInt8} {w w' : World} (h : Buf1 N Bf k T w) (hb : Below w.heap.size w w') : Buf1 N Bf k T w' := by
  obtain ⟨P, F, made, n, ps, fs, h1, h2, h3, h4⟩ := h
  exact ⟨P, F, made, n, ps, fs, h1.below hb, h2, h3, h4⟩
theorem Buf1.sz {N Bf k : Nat} {T : List UInt8} {w : World} (h : Buf1 N Bf k T w) : N ≤ w.heap.size := by
  obtain ⟨P, F, made, n, ps, fs, h1, _⟩ := h
  exact h1.sz

/-- Splice, whatever it is told. -/
theorem buf1_splice (N Bf k : Nat) (T : List UInt8) (f t : Int) (s : ByteArray) (w : World) (h : Buf1 N Bf k T w) (hs : s.size ≤ 100) (hk : k < 100) :
    Calls Try.prog 29 #[.pointer (some ⟨Bf, 0, none⟩), .int .i64 f, .int .i64 t, .string s] w fun e w' => ∃ er T', e = .returned (.int .i64 er) ∧ Buf1 N Bf (k + 1) T' w' ∧ Below N w w' := by
  obtain ⟨P, F, made, n, ps, fs, h1, h2, h3, h4⟩ := h
  cases hR : rightB 0 T.length [(⟨f, t, s⟩ : Ed)] with
  | false =>
    refine (splice_no N Bf P F made n T ps fs f t s w h1 hR).mono ?_
    rintro e w' ⟨rfl, hb⟩
    exact ⟨2, T, rfl, ⟨P, F, made, n, ps, fs, h1.below hb, by omega, by omega, by omega⟩, hb.mono h1.sz⟩
  | true =>
    have hl := appl_one_le T ⟨f, t, s⟩ hR
    simp only at hl
    refine (splice_ok N Bf P F made n T ps fs f t s w h1 hR (by omega) (by omega) (by omega) (by omega)).mono ?_
    rintro e w' ⟨rfl, P', hbk⟩
    have hb := hbk.below h1
    obtain ⟨n', hh, _, _, _⟩ := hbk
    exact ⟨0, _, rfl, ⟨P', _, _, n', _, _, hh, by omega, by simp; omega, by omega⟩, hb⟩

set_option maxRecDepth 100000 in
set_option maxHeartbeats 4000000 in
theorem law_looks (s : ByteArray) (A : Option Addr) (len cap : Nat) (l : List Ac) (x y : Int) (w : World) (hlen : l.length = len) (hl : len ≤ cap) (hcap : cap ≤ 9223372036854775807) (hE : AcsAt w w.heap.size A l) (hx : x ≤ 9223372036854775807) :
    Calls Try.prog 9 #[.string s, .slice A len cap, .int .i64 x, .int .i64 y] w (Fine w) := by
  by_cases h3 : 300 < s.size
  · have q1 : decide ((300 : Int) < (s.size : Int)) = true := by simp; omega
    go_enter Try.func9, Try.ntmps9
    go_wp2_with fail
    refine (awake2 w).mono ?_
    rintro e w1 ⟨rfl, hb1⟩
    go_wp2
    go_ret
    exact ⟨rfl, hb1⟩
  · have q1 : decide ((300 : Int) < (s.size : Int)) = false := by simp; omega
    have HG := Lib.hid (great2_any A len cap l w hlen hl hcap hE)
    have HL := Lib.hid hlen
    clear hlen
    cases hg : greatA l with
    | true =>
      have HGB := Lib.hid hg; clear hg
      go_enter Try.func9, Try.ntmps9
      go_wp2_with fail
      refine HG.out.mono ?_
      rintro e w1 ⟨rfl, rfl⟩
      rw [HGB.out]
      go_wp2_with fail
      refine (awake2 w).mono ?_
      rintro e w1 ⟨rfl, hb1⟩
      go_wp2
      go_ret
      exact ⟨rfl, hb1⟩
    | false =>
      have HGB := Lib.hid hg
      obtain ⟨hl60, hsm⟩ := great_no hg
      rw [HL.out] at hl60
      have HSM := Lib.hid hsm
      clear hg hsm
      go_enter Try.func9, Try.ntmps9
      go_wp2_with fail
      refine HG.out.mono ?_
      rintro e w1 ⟨rfl, rfl⟩
      rw [HGB.out]
      clear HG HGB
      go_wp2_with fail
      refine (awake2 w).mono ?_
      rintro e w1 ⟨rfl, hb1⟩
      go_wp2_with fail
      refine (new_any s w1 (by omega)).mono ?_
      rintro e w2 ⟨Bf, A2, c2, L2, rfl, ht2, hb2, hL2, hB2⟩
      have hsz : s.data.toList.length = s.size := (Lib.size_eq s).symm
      have hst : Buf1 w1.heap.size Bf 0 s.data.toList w2 := ⟨_, _, 0, _, [], [], new_his ht2 hb2 hB2 (by omega), by omega, by simp, by omega⟩
      have HST := Lib.hid hst
      have hb12 := below_tr hb1 hb2 hb1.size
      have hz1 := hb1.size
      clear hst ht2 hb2 hL2 hB2 hsz hb1
      go_wp2_with fail
      go_loopw [11] (fun i wr => ∃ (k : Nat) (T : List UInt8), k ≤ len ∧ i = .int .i64 k ∧ Hid (Buf1 w1.heap.size Bf k T wr) ∧ Below w.heap.size w wr) (fun i _ => len - (intOf i).toNat)
      case atStart => exact ⟨0, _, Nat.zero_le _, rfl, HST.out, hb12⟩
      case round =>
        clear HST hb12
        obtain ⟨k, T, hk, rfl, HB, hb⟩ := hrel
        by_cases hlt : k < len
        · obtain ⟨a, ha⟩ := get_some l k (by rw [HL.out]; exact hlt)
          have hs100 := (HSM.out a (List.mem_of_getElem? ha)).1
          obtain ⟨ad, rfl, hab, c0, c1, c2, c3, c4, _⟩ := (hE.below hb) k a ha
          clear ha
          go_wp2_with fail
          go_region_with (go_at_call 29; (with_reducible refine (buf1_splice w1.heap.size Bf k T a.f a.t a.s wr.drew (HB.out.below (Below.refl _ wr).drew) hs100 (by omega)).mono ?_); rintro e w3 ⟨er, T', rfl, hb3, hbl3⟩)
          all_goals
            have HB3 := Lib.hid hb3
            have hb3' : Below w.heap.size w w3 := below_tr hb (show Below w1.heap.size wr w3 from ⟨hbl3.os, hbl3.tape, hbl3.output, hbl3.size, hbl3.block⟩) hz1
            clear hb3 hbl3 HB hb c0 c1 c2 c3 c4
            try go_wp2
            try go_roundw
          all_goals first
            | exact ⟨k + 1, T', by omega, by go_num, HB3.out, hb3'⟩
            | (simp [intOf]; omega)
            | exact ⟨⟨k + 1, T', by omega, by go_num, HB3.out, hb3'⟩, by simp [intOf]; omega⟩
        · obtain ⟨P, F, made, n, ps, fs, hh, _, _, hTl⟩ := HB.out
          have HH := Lib.hid hh
          have hT : T.length ≤ 1048576 := hh.tl
          clear hh HB hTl
          go_wp2_with fail
          refine (his_text _ _ _ _ _ _ _ _ _ _ HH.out).mono ?_
          rintro e w3 ⟨rfl, hb3⟩
          have HH3 := Lib.hid (HH.out.below hb3)
          have hb3' := below_tr hb hb3 hb.size
          clear hb hb3 HH
          obtain ⟨A3, c3, L3, ht3⟩ := HH3.out.tx
          have HT3 := Lib.hid ht3; clear ht3
          generalize hS : (⟨T.toArray⟩ : ByteArray) = S
          have hSz : S.size = T.length := by rw [← hS]; simp [ByteArray.size]
          have hSd : S.data.toList = T := by rw [← hS]
          have HSD := Lib.hid hSd
          clear hS hSd
          obtain ⟨z, hz⟩ : ∃ z, z = T.length := ⟨_, rfl⟩
          rw [← hz] at hSz hT
          have HZ := Lib.hid hz; clear hz
          rcases (by omega : x < 0 ∨ 0 ≤ x) with hx0 | hx0
          · have q2 : decide (x < 0) = true := by simp; omega
            have q3 : decide (0 ≤ x) = false := by simp; omega
            go_wp2_with fail
            refine (bslice_no _ _ _ _ _ _ _ _ _ _ x y _ HT3.out (by omega)).mono ?_
            rintro e w4 ⟨rfl, hb4⟩
            have hb4' := below_tr hb3' hb4 hb3'.size
            clear hb3' hb4
            go_wp2_with fail
            refine (at_neg Bf x w4 hx0).mono ?_
            rintro e w5 ⟨rfl, rfl⟩
            go_wp2
            go_ret
            exact ⟨rfl, hb4'⟩
          · obtain ⟨xn, rfl⟩ : ∃ xn : Nat, x = xn := ⟨x.toNat, by omega⟩
            have q2 : decide ((xn : Int) < 0) = false := by simp
            have q3 : decide (0 ≤ (xn : Int)) = true := by simp
            by_cases hxl : xn < z
            · have hxS : xn < S.size := by omega
              have HB0 := Lib.hid (show T[xn]? = some (S[xn]'hxS) from byte_at' HSD.out hxS)
              have q4 : decide ((xn : Int) < (S.size : Int)) = true := by simp; omega
              by_cases hin : (xn : Int) ≤ y ∧ y ≤ (z : Int)
              · obtain ⟨yn, rfl⟩ : ∃ yn : Nat, y = yn := ⟨y.toNat, by omega⟩
                have q5 : decide ((yn : Int) < (xn : Int)) = false := by simp; omega
                have q6 : decide ((S.size : Int) < (yn : Int)) = false := by simp; omega
                have hext : (⟨((T.drop xn).take (yn - xn)).toArray⟩ : ByteArray) = S.extract xn yn := by rw [Lib.extract_eq, HSD.out]
                go_wp2_with fail
                refine (bslice_ok _ _ _ _ _ _ _ _ _ _ xn yn _ HT3.out (by omega) (by rw [← HZ.out]; omega) (by rw [← HZ.out]; omega)).mono ?_
                rintro e w4 ⟨rfl, hb4⟩
                rw [hext]
                obtain ⟨A4, c4, L4, ht4⟩ := (HH3.out.below hb4).tx
                have HT4 := Lib.hid ht4; clear ht4
                have hb4' := below_tr hb3' hb4 hb3'.size
                clear hb3' hb4 hext
                go_wp2_with fail
                refine (at_any _ _ _ _ _ _ _ _ _ _ xn _ HT4.out (by omega)).mono ?_
                rintro e w5 ⟨hat, rfl⟩
                have he := hat.1 _ HB0.out
                subst he
                clear hat
                have u1 : xn ≤ yn := by omega
                have u2 : yn ≤ S.size := by omega
                go_wp2
                go_ret
                exact ⟨rfl, hb4'⟩
              · have q7 : (decide (y < (xn : Int)) || decide ((S.size : Int) < y)) = true := by simp; omega
                go_wp2_with fail
                refine (bslice_no _ _ _ _ _ _ _ _ _ _ xn y _ HT3.out (by rw [← HZ.out]; omega)).mono ?_
                rintro e w4 ⟨rfl, hb4⟩
                obtain ⟨A4, c4, L4, ht4⟩ := (HH3.out.below hb4).tx
                have HT4 := Lib.hid ht4; clear ht4
                have hb4' := below_tr hb3' hb4 hb3'.size
                clear hb3' hb4
                go_wp2_with fail
                refine (at_any _ _ _ _ _ _ _ _ _ _ xn _ HT4.out (by omega)).mono ?_
                rintro e w5 ⟨hat, rfl⟩
                have he := hat.1 _ HB0.out
                subst he
                clear hat
                by_cases hyx : y < (xn : Int)
                · have q8 : decide (y < (xn : Int)) = true := by simp; omega
                  go_wp2
                  go_ret
                  exact ⟨rfl, hb4'⟩
                · have q8 : decide (y < (xn : Int)) = false := by simp; omega
                  have q9 : decide ((S.size : Int) < y) = true := by simp; omega
                  go_wp2
                  go_ret
                  exact ⟨rfl, hb4'⟩
            · have q4 : decide ((xn : Int) < (S.size : Int)) = false := by simp; omega
              have HB0 := Lib.hid (show T[xn]? = none from List.getElem?_eq_none (by rw [← HZ.out]; omega))
              by_cases hin : (xn : Int) ≤ y ∧ y ≤ (z : Int)
              · obtain ⟨yn, rfl⟩ : ∃ yn : Nat, y = yn := ⟨y.toNat, by omega⟩
                have q5 : decide ((yn : Int) < (xn : Int)) = false := by simp; omega
                have q6 : decide ((S.size : Int) < (yn : Int)) = false := by simp; omega
                have hext : (⟨((T.drop xn).take (yn - xn)).toArray⟩ : ByteArray) = S.extract xn yn := by rw [Lib.extract_eq, HSD.out]
                go_wp2_with fail
                refine (bslice_ok _ _ _ _ _ _ _ _ _ _ xn yn _ HT3.out (by omega) (by rw [← HZ.out]; omega) (by rw [← HZ.out]; omega)).mono ?_
                rintro e w4 ⟨rfl, hb4⟩
                rw [hext]
                obtain ⟨A4, c4, L4, ht4⟩ := (HH3.out.below hb4).tx
                have HT4 := Lib.hid ht4; clear ht4
                have hb4' := below_tr hb3' hb4 hb3'.size
                clear hb3' hb4 hext
                go_wp2_with fail
                refine (at_any _ _ _ _ _ _ _ _ _ _ xn _ HT4.out (by omega)).mono ?_
                rintro e w5 ⟨hat, rfl⟩
                have he := hat.2 HB0.out
                subst he
                clear hat
                have u1 : xn ≤ yn := by omega
                have u2 : yn ≤ S.size := by omega
                go_wp2
                go_ret
                exact ⟨rfl, hb4'⟩
              · go_wp2_with fail
                refine (bslice_no _ _ _ _ _ _ _ _ _ _ xn y _ HT3.out (by rw [← HZ.out]; omega)).mono ?_
                rintro e w4 ⟨rfl, hb4⟩
                obtain ⟨A4, c4, L4, ht4⟩ := (HH3.out.below hb4).tx
                have HT4 := Lib.hid ht4; clear ht4
                have hb4' := below_tr hb3' hb4 hb3'.size
                clear hb3' hb4
                go_wp2_with fail
                refine (at_any _ _ _ _ _ _ _ _ _ _ xn _ HT4.out (by omega)).mono ?_
                rintro e w5 ⟨hat, rfl⟩
                have he := hat.2 HB0.out
                subst he
                clear hat
                by_cases hyx : y < (xn : Int)
                · have q8 : decide (y < (xn : Int)) = true := by simp; omega
                  go_wp2
                  go_ret
                  exact ⟨rfl, hb4'⟩
                · have q8 : decide (y < (xn : Int)) = false := by simp; omega
                  have q9 : decide ((S.size : Int) < y) = true := by simp; omega
                  go_wp2
                  go_ret
                  exact ⟨rfl, hb4'⟩
end Go.Proofs.Ytpifobaejmfppaa
