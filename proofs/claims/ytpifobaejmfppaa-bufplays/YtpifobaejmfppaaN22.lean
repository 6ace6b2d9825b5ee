/- Buffers behind some acts; two buffers beside each other. -/
import Derived.Test.YtpifobaejmfppaaLaw9
namespace Go.Proofs.Ytpifobaejmfppaa
open Go.RowKit

/-- Bounds on what a buffer holds, k acts behind New. -/
structure Bd (k : Nat) (made : Nat) (T : List UInt8) (ps fs : List St) : Prop where
  m : made ≤ 100000 * k
  p : ps.length ≤ k
  f : fs.length ≤ k
  t : T.length ≤ 300 + 3000 * k
  s : ∀ x, x ∈ ps ∨ x ∈ fs → x.2.length ≤ 300 + 3000 * k

theorem Bd.more {k k' made : Nat} {T : List UInt8} {ps fs : List St} (h : Bd k made T ps fs) (hk : k ≤ k') : Bd k' made T ps fs :=
  ⟨by have := h.m; omega, by have := h.p; omega, by have := h.f; omega, by have := h.t; omega, fun x hx => by have := h.s x hx; omega⟩
set_option maxRecDepth 10000 in
theorem Bd.apply {k made : Nat} {T : List UInt8} {ps fs : List St} (h : Bd k made T ps fs) (l : List Ed) (T' : List UInt8) (tl : List Ed) (hl : l.length ≤ 100000) (hT : T'.length ≤ T.length + 3000) : Bd (k + 1) (made + l.length) T' ((tl, T) :: ps) [] :=
  ⟨by have := h.m; omega, by have := h.p; simp; omega, by simp, by have := h.t; omega, fun x hx => by
    rcases hx with hx | hx
    · rcases List.mem_cons.1 hx with rfl | hx
      · have := h.t; simp only; omega
      · have := h.s x (.inl hx); omega
    · simp at hx⟩
set_option maxRecDepth 10000 in
theorem Bd.undo {k made : Nat} {T t : List UInt8} {ps fs : List St} {l : List Ed} (h : Bd k made T ((l, t) :: ps) fs) (tl : List Ed) : Bd (k + 1) (made - l.length) t ps ((tl, T) :: fs) :=
  ⟨by have := h.m; omega, by have := h.p; simp at this; omega, by have := h.f; simp; omega, by have := h.s (l, t) (.inl (by simp)); simp only at this; omega, fun x hx => by
    rcases hx with hx | hx
    · have := h.s x (.inl (List.mem_cons_of_mem _ hx)); omega
    · rcases List.mem_cons.1 hx with rfl | hx
      · have := h.t; simp only; omega
      · have := h.s x (.inr hx); omega⟩
set_option maxRecDepth 10000 in
theorem Bd.redo {k made : Nat} {T t : List UInt8} {ps fs : List St} {l : List Ed} (h : Bd k made T ps ((l, t) :: fs)) (tl : List Ed) (hl : l.length ≤ 100000) : Bd (k + 1) (made + l.length) t ((tl, T) :: ps) fs :=
  ⟨by have := h.m; omega, by have := h.p; simp; omega, by have := h.f; simp at this; omega, by have := h.s (l, t) (.inr (by simp)); simp only at this; omega, fun x hx => by
    rcases hx with hx | hx
    · rcases List.mem_cons.1 hx with rfl | hx
      · have := h.t; simp only; omega
      · have := h.s x (.inl hx); omega
    · have := h.s x (.inr (List.mem_cons_of_mem _ hx)); omega⟩

theorem TxAt.lower {w : World} {base base' Bf n c : Nat} {p f : Value} {made : Int} {A : Option Addr} {L : List Pc} {T : List UInt8} (h : TxAt w base Bf p f made A n c L T) (hb : base' ≤ base) : TxAt w base' Bf p f made A n c L T :=
  ⟨h.bf, own_more h.own hb, h.ln, h.pcs, h.tx, h.mx⟩

theorem new_his' {w w' : World} {N Bf c : Nat} {A : Option Addr} {L : List Pc} {T : List UInt8} (h : TxAt w' w.heap.size Bf (.slice none 0 0) (.slice none 0 0) 0 A L.length c L T) (hb : Below w.heap.size w w') (hB : w.heap.size ≤ Bf) (hT : T.length ≤ 1048576) (hN : N ≤ w.heap.size) : HisAt w' N Bf (.slice none 0 0) (.slice none 0 0) 0 L.length T [] [] :=
  ⟨⟨A, c, L, h.lower hN⟩, ⟨_, _, rfl⟩, ⟨_, _, rfl⟩, ⟨[], World.ownsRow_nil _ _ _ _, trivial⟩, ⟨[], World.ownsRow_nil _ _ _ _, trivial⟩, fun _ _ => by simp [Value.ownBlock], trivial, trivial, Nat.le_refl _, by omega, hT, by omega, Nat.le_trans hN hb.size⟩

theorem his_other {w w' : World} {N Ba Bb made made0 made1 n0 n1 : Nat} {P F P0 F0 P1 F1 : Value} {T T0 T1 : List UInt8} {ps fs ps0 fs0 ps1 fs1 : List St} (ha : HisAt w N Ba P0 F0 made0 n0 T0 ps0 fs0) (hb : HisAt w N Bb P1 F1 made1 n1 T1 ps1 fs1) (hd : ∀ i, Mt Ba P0 F0 i → ¬ Mt Bb P1 F1 i) (hbk : HisBack N Ba P F made T ps fs P0 F0 w w') :
    (∃ n, HisAt w' N Ba P F made n T ps fs) ∧ HisAt w' N Bb P1 F1 made1 n1 T1 ps1 fs1 ∧ (∀ i, Mt Ba P F i → ¬ Mt Bb P1 F1 i) ∧ KT w w' ∧ Below N w w' := by
  have hbl := hbk.below ha
  obtain ⟨n, h1, h2, h3, h4⟩ := hbk
  refine ⟨⟨n, h1⟩, hb.keep h3 (fun i hi he => hd i he hi) (ha.kt h3), fun i hi hm => ?_, ha.kt h3, hbl⟩
  rcases h4 i hi with h | h
  · exact hd i h hm
  · obtain ⟨_, cs, t, hc, _⟩ := hb.mt hm
    have := lt_of_heap hc
    omega

/-- Two buffers of which the same was done. -/
def Two (N Ba Bb k : Nat) (T : List UInt8) (ps fs : List St) (w : World) : Prop :=
  ∃ Pa Fa Pb Fb made na nb, HisAt w N Ba Pa Fa made na T ps fs ∧ HisAt w N Bb Pb Fb made nb T ps fs ∧ (∀ i, Mt Ba Pa Fa i → ¬ Mt Bb Pb Fb i) ∧ Bd k made T ps fs

theorem kt_below {w w' : World} (hb : Below w.heap.size w w') : KT w w' := fun i _ _ _ hi _ _ => (hb.block i (lt_of_heap hi)).trans hi

theorem Two.below {N Ba Bb k : Nat} {T : List UInt8} {ps fs : List St} {w w' : World} (h : Two N Ba Bb k T ps fs w) (hb : Below w.heap.size w w') : Two N Ba Bb k T ps fs w' := by
  obtain ⟨Pa, Fa, Pb, Fb, made, na, nb, h1, h2, h3, h4⟩ := h
  exact ⟨Pa, Fa, Pb, Fb, made, na, nb, h1.below hb, h2.below hb, h3, h4⟩

theorem his_past {w : World} {N Bf made n : Nat} {P F : Value} {T : List UInt8} {ps fs : List St} (h : HisAt w N Bf P F made n T ps fs) : Calls Try.prog 35 #[.pointer (some ⟨Bf, 0, none⟩)] w fun e w' => e = .returned (.int .i64 ps.length) ∧ w' = w := by
  obtain ⟨A, c, L, ht⟩ := h.tx
  obtain ⟨pA, pc, hpv⟩ := h.pv
  subst hpv
  exact bpast_any ht.bf
theorem his_future {w : World} {N Bf made n : Nat} {P F : Value} {T : List UInt8} {ps fs : List St} (h : HisAt w N Bf P F made n T ps fs) : Calls Try.prog 36 #[.pointer (some ⟨Bf, 0, none⟩)] w fun e w' => e = .returned (.int .i64 fs.length) ∧ w' = w := by
  obtain ⟨A, c, L, ht⟩ := h.tx
  obtain ⟨pA, pc, hpv⟩ := h.fv
  subst hpv
  exact bfuture_any ht.bf

/-- Undo, of two buffers alike. -/
theorem two_undo (N Ba Bb k : Nat) (T t : List UInt8) (l : List Ed) (ps fs : List St) (w : World) (h : Two N Ba Bb k T ((l, t) :: ps) fs w) (hk : k < 1000) :
    Calls Try.prog 31 #[.pointer (some ⟨Ba, 0, none⟩)] w fun e w1 => (∃ v, e = .returned (.tuple #[v, .bool true])) ∧ KT w w1 ∧ Below N w w1 ∧ Calls Try.prog 31 #[.pointer (some ⟨Bb, 0, none⟩)] w1 fun e w2 => (∃ v, e = .returned (.tuple #[v, .bool true])) ∧ KT w1 w2 ∧ Below N w1 w2 ∧ Two N Ba Bb (k + 1) t ps ((turn T 0 l, T) :: fs) w2 := by
  obtain ⟨Pa, Fa, Pb, Fb, made, na, nb, ha, hb, hd, hbd⟩ := h
  refine (undo_ok N Ba Pa Fa made na T t l ps fs w ha (by have := hbd.f; omega)).mono ?_
  rintro e w1 ⟨B, d, rfl, _, P', F', hbk⟩
  obtain ⟨⟨n1, ha1⟩, hb1, hd1, hkt1, hbl1⟩ := his_other ha hb hd hbk
  refine ⟨⟨_, rfl⟩, hkt1, hbl1, ?_⟩
  refine (undo_ok N Bb Pb Fb made nb T t l ps fs w1 hb1 (by have := hbd.f; omega)).mono ?_
  rintro e w2 ⟨B2, d2, rfl, _, P2, F2, hbk2⟩
  obtain ⟨⟨n2, hb2⟩, ha2, hd2, hkt2, hbl2⟩ := his_other hb1 ha1 (fun i h h' => hd1 i h' h) hbk2
  exact ⟨⟨_, rfl⟩, hkt2, hbl2, P', F', P2, F2, _, n1, n2, ha2, hb2, fun i h h' => hd2 i h' h, hbd.undo _⟩

/-- A splice of one, the edit of the other. -/
theorem two_edit (N Ba Bb k : Nat) (T : List UInt8) (f t : Int) (s : ByteArray) (ps fs : List St) (w : World) (h : Two N Ba Bb k T ps fs w) (hk : k < 100) (hs : s.size ≤ 100) :
    Calls Try.prog 29 #[.pointer (some ⟨Ba, 0, none⟩), .int .i64 f, .int .i64 t, .string s] w fun e w1 => ∃ er : Int, e = .returned (.int .i64 er) ∧ KT w w1 ∧ Below N w w1 ∧ ∀ w2 EA, Below w1.heap.size w1 w2 → EdsAt w2 w2.heap.size EA [⟨f, t, s⟩] → Calls Try.prog 30 #[.pointer (some ⟨Bb, 0, none⟩), .slice EA 1 1] w2 fun e w3 => e = .returned (.int .i64 er) ∧ Below N w2 w3 ∧ ∃ T' ps' fs', Two N Ba Bb (k + 1) T' ps' fs' w3 := by
  obtain ⟨Pa, Fa, Pb, Fb, made, na, nb, ha, hb, hd, hbd⟩ := h
  have htl := hbd.t
  have hpl := hbd.p
  have hml := hbd.m
  cases hR : rightB 0 T.length [(⟨f, t, s⟩ : Ed)] with
  | false =>
    refine (splice_no N Ba Pa Fa made na T ps fs f t s w ha hR).mono ?_
    rintro e w1 ⟨rfl, hb1⟩
    refine ⟨2, rfl, kt_below hb1, hb1.mono ha.sz, fun w2 EA hbl hE => ?_⟩
    obtain ⟨A, c, L, ht⟩ := ((hb.below hb1).below hbl).tx
    refine (bap_no Bb Pb Fb made A nb c L T N EA 1 1 [⟨f, t, s⟩] w2 ht rfl (Nat.le_refl _) (by omega) hE hR).mono ?_
    rintro e w3 ⟨rfl, hb3⟩
    exact ⟨rfl, hb3.mono ((hb.below hb1).below hbl).sz, T, ps, fs, Pa, Fa, Pb, Fb, made, na, nb, ((ha.below hb1).below hbl).below hb3, ((hb.below hb1).below hbl).below hb3, hd, hbd.more (by omega)⟩
  | true =>
    have hal := appl_one_le T ⟨f, t, s⟩ hR
    simp only at hal
    refine (splice_ok N Ba Pa Fa made na T ps fs f t s w ha hR (by omega) (by omega) (by omega) (by omega)).mono ?_
    rintro e w1 ⟨rfl, P', hbk⟩
    obtain ⟨⟨n1, ha1⟩, hb1, hd1, hkt1, hbl1⟩ := his_other ha hb hd hbk
    refine ⟨0, rfl, hkt1, hbl1, fun w2 EA hbl hE => ?_⟩
    refine (bap_ok N Bb Pb Fb made nb T ps fs EA 1 1 [⟨f, t, s⟩] w2 (hb1.below hbl) rfl (Nat.le_refl _) (by omega) (by omega) hE hR (by simp [tot]; omega) (by omega) (by omega) (by omega)).mono ?_
    rintro e w3 ⟨rfl, P3, hbk3⟩
    obtain ⟨⟨n3, hb3⟩, ha3, hd3, hkt3, hbl3⟩ := his_other (hb1.below hbl) (ha1.below hbl) (fun i h h' => hd1 i h' h) hbk3
    exact ⟨rfl, hbl3, _, _, _, P', _, P3, _, _, n1, n3, ha3, hb3, fun i h h' => hd3 i h' h, hbd.apply [⟨f, t, s⟩] _ _ (by simp) (by omega)⟩

set_option maxRecDepth 100000 in
set_option maxHeartbeats 4000000 in
theorem law_twice (s : ByteArray) (A : Option Addr) (len cap : Nat) (l : List Ac) (w : World) (hlen : l.length = len) (hl : len ≤ cap) (hcap : cap ≤ 9223372036854775807) (hE : AcsAt w w.heap.size A l) :
    Calls Try.prog 12 #[.string s, .slice A len cap] w (Fine w) := by
  by_cases h3 : 300 < s.size
  · have q1 : decide ((300 : Int) < (s.size : Int)) = true := by simp; omega
    go_enter Try.func12, Try.ntmps12
    go_wp2_with fail
    refine (awake2 w).mono ?_
    rintro e w1 ⟨rfl, hb1⟩
    go_wp2
    go_ret
    exact ⟨rfl, hb1⟩
  · have q1 : decide ((300 : Int) < (s.size : Int)) = false := by simp; omega
    have HG := Lib.hid (great2_any A len cap l w hlen hl hcap hE)
    have HL := Lib.hid hlen
    clear hlen
    cases hg : greatA l with
    | true =>
      have HGB := Lib.hid hg; clear hg
      go_enter Try.func12, Try.ntmps12
      go_wp2_with fail
      refine HG.out.mono ?_
      rintro e w1 ⟨rfl, rfl⟩
      rw [HGB.out]
      go_wp2_with fail
      refine (awake2 w).mono ?_
      rintro e w1 ⟨rfl, hb1⟩
      go_wp2
      go_ret
      exact ⟨rfl, hb1⟩
    | false =>
      have HGB := Lib.hid hg
      obtain ⟨hl60, hsm⟩ := great_no hg
      rw [HL.out] at hl60
      have HSM := Lib.hid hsm
      clear hg hsm
      go_enter Try.func12, Try.ntmps12
      go_wp2_with fail
      refine HG.out.mono ?_
      rintro e w1 ⟨rfl, rfl⟩
      rw [HGB.out]
      clear HG HGB
      go_wp2_with fail
      refine (awake2 w).mono ?_
      rintro e w1 ⟨rfl, hb1⟩
      go_wp2_with fail
      refine (new_any s w1 (by omega)).mono ?_
      rintro e w2 ⟨Ba, A2, c2, L2, rfl, ht2, hb2, _, hB2⟩
      have hsz : s.data.toList.length = s.size := (Lib.size_eq s).symm
      have HA2 := Lib.hid (new_his ht2 hb2 hB2 (by omega))
      have hb12 := below_tr hb1 hb2 hb1.size
      have hz1 := hb1.size
      have hz2 := hb2.size
      have hBa := ht2.bf.lt
      clear ht2 hb2 hb1
      go_wp2_with fail
      refine (new_any s w2 (by omega)).mono ?_
      rintro e w3 ⟨Bb, A3, c3, L3, rfl, ht3, hb3, _, hB3⟩
      have hst : Two w1.heap.size Ba Bb 0 s.data.toList [] [] w3 := ⟨_, _, _, _, 0, _, _, HA2.out.below hb3, new_his' ht3 hb3 hB3 (by omega) hz2, fun i hi hm => by
        rcases hi with hi | hi | hi
        · rcases hm with hm | hm | hm
          · omega
          · simp [Value.ownBlock] at hm
          · simp [Value.ownBlock] at hm
        · simp [Value.ownBlock] at hi
        · simp [Value.ownBlock] at hi, ⟨by omega, by simp, by simp, by omega, by simp⟩⟩
      have HST := Lib.hid hst
      have hb13 := below_tr hb12 hb3 (by omega)
      clear hst ht3 hb3 HA2 hb12
      go_wp2_with fail
      go_loopw [9] (fun i wr => ∃ (k : Nat) (T : List UInt8) (ps fs : List St), k ≤ len ∧ i = .int .i64 k ∧ Hid (Two w1.heap.size Ba Bb k T ps fs wr) ∧ Below w.heap.size w wr) (fun i _ => len - (intOf i).toNat)
      case atStart => exact ⟨0, _, _, _, Nat.zero_le _, rfl, HST.out, hb13⟩
      case round =>
        clear HST hb13
        obtain ⟨k, T, ps, fs, hk, rfl, HB, hb⟩ := hrel
        by_cases hlt : k < len
        · obtain ⟨a, ha⟩ := get_some l k (by rw [HL.out]; exact hlt)
          have hs100 := (HSM.out a (List.mem_of_getElem? ha)).1
          obtain ⟨ad, rfl, hab, c0, c1, c2, c3, c4, _⟩ := (hE.below hb) k a ha
          clear ha
          by_cases hk2 : a.k = 2
          · rw [hk2] at c0
            clear hk2
            have HBx := Lib.hid (HB.out.below ((Below.refl _ wr).alloc (Nat.le_refl _) (.cells #[.int .i64 2, .int .i64 a.f, .int .i64 a.t, .string a.s, .slice a.A a.len a.cap] 52)))
            have hbx := hb.alloc hb.size (.cells #[.int .i64 2, .int .i64 a.f, .int .i64 a.t, .string a.s, .slice a.A a.len a.cap] 52)
            cases ps with
            | nil =>
              obtain ⟨Pa, Fa, Pb, Fb, made, na, nb, ha, hbb, hd, hbd⟩ := HBx.out
              have HAA := Lib.hid ha; have HBB := Lib.hid hbb; have HBD := Lib.hid (And.intro hd hbd)
              clear ha hbb hd hbd
              go_wp2_with fail
              refine (undo_none _ _ _ _ _ _ _ _ _ HAA.out).mono ?_
              rintro e w4 ⟨rfl, rfl⟩
              go_wp2_with fail
              refine (undo_none _ _ _ _ _ _ _ _ _ HBB.out).mono ?_
              rintro e w4 ⟨rfl, rfl⟩
              have HB5 := Lib.hid (show Two w1.heap.size Ba Bb (k + 1) T [] fs _ from ⟨Pa, Fa, Pb, Fb, made, na, nb, HAA.out, HBB.out, HBD.out.1, HBD.out.2.more (by omega)⟩)
              have hbl5 := hbx
              clear HAA HBB HBD HBx hbx
              clear HB hb
              obtain ⟨Pa, Fa, Pb, Fb, made, na, nb, ha, hbb, hd, hbd⟩ := HB5.out
              have HAA := Lib.hid ha; have HBB := Lib.hid hbb
              clear ha hbb hd hbd
              go_wp2_with fail
              refine (his_text _ _ _ _ _ _ _ _ _ _ HAA.out).mono ?_
              rintro e w6 ⟨rfl, hb6⟩
              have HA6 := Lib.hid (HAA.out.below hb6); have HB6 := Lib.hid (HBB.out.below hb6)
              have hbl6 := below_tr hbl5 hb6 hbl5.size
              have HT6 := Lib.hid (HB5.out.below hb6)
              clear HAA HBB HB5 hbl5 hb6
              go_wp2_with fail
              refine (his_text _ _ _ _ _ _ _ _ _ _ HB6.out).mono ?_
              rintro e w7 ⟨rfl, hb7⟩
              have HA7 := Lib.hid (HA6.out.below hb7); have HB7 := Lib.hid (HB6.out.below hb7)
              have hbl7 := below_tr hbl6 hb7 hbl6.size
              have HT7 := Lib.hid (HT6.out.below hb7)
              clear HA6 HB6 HT6 hbl6 hb7
              go_wp2_with fail
              refine (his_past HA7.out).mono ?_
              rintro e w8 ⟨rfl, rfl⟩
              go_wp2_with fail
              refine (his_past HB7.out).mono ?_
              rintro e w8 ⟨rfl, rfl⟩
              go_wp2_with fail
              refine (his_future HA7.out).mono ?_
              rintro e w8 ⟨rfl, rfl⟩
              go_wp2_with fail
              refine (his_future HB7.out).mono ?_
              rintro e w8 ⟨rfl, rfl⟩
              go_wp2
              go_roundw
              case rel => exact ⟨k + 1, _, _, _, by omega, by go_num, HT7.out, hbl7⟩
              case measure => simp [intOf]; omega
            | cons st ps =>
              obtain ⟨l0, t0⟩ := st
              go_wp2_with fail
              refine (two_undo _ _ _ _ _ _ _ _ _ _ HBx.out (by omega)).mono ?_
              rintro e w4 ⟨⟨v4, rfl⟩, _, hb4, hc4⟩
              have HC4 := Lib.hid hc4
              have hbl4 := below_tr hbx hb4 hz1
              clear hc4 hb4 HBx hbx
              go_wp2_with fail
              refine HC4.out.mono ?_
              rintro e w5 ⟨⟨v5, rfl⟩, _, hb5, hT5⟩
              have HB5 := Lib.hid hT5
              have hbl5 := below_tr hbl4 hb5 hz1
              clear hT5 hb5 HC4 hbl4
              clear HB hb
              obtain ⟨Pa, Fa, Pb, Fb, made, na, nb, ha, hbb, hd, hbd⟩ := HB5.out
              have HAA := Lib.hid ha; have HBB := Lib.hid hbb
              clear ha hbb hd hbd
              go_wp2_with fail
              refine (his_text _ _ _ _ _ _ _ _ _ _ HAA.out).mono ?_
              rintro e w6 ⟨rfl, hb6⟩
              have HA6 := Lib.hid (HAA.out.below hb6); have HB6 := Lib.hid (HBB.out.below hb6)
              have hbl6 := below_tr hbl5 hb6 hbl5.size
              have HT6 := Lib.hid (HB5.out.below hb6)
              clear HAA HBB HB5 hbl5 hb6
              go_wp2_with fail
              refine (his_text _ _ _ _ _ _ _ _ _ _ HB6.out).mono ?_
              rintro e w7 ⟨rfl, hb7⟩
              have HA7 := Lib.hid (HA6.out.below hb7); have HB7 := Lib.hid (HB6.out.below hb7)
              have hbl7 := below_tr hbl6 hb7 hbl6.size
              have HT7 := Lib.hid (HT6.out.below hb7)
              clear HA6 HB6 HT6 hbl6 hb7
              go_wp2_with fail
              refine (his_past HA7.out).mono ?_
              rintro e w8 ⟨rfl, rfl⟩
              go_wp2_with fail
              refine (his_past HB7.out).mono ?_
              rintro e w8 ⟨rfl, rfl⟩
              go_wp2_with fail
              refine (his_future HA7.out).mono ?_
              rintro e w8 ⟨rfl, rfl⟩
              go_wp2_with fail
              refine (his_future HB7.out).mono ?_
              rintro e w8 ⟨rfl, rfl⟩
              go_wp2
              go_roundw
              case rel => exact ⟨k + 1, _, _, _, by omega, by go_num, HT7.out, hbl7⟩
              case measure => simp [intOf]; omega
          · have q2 : (a.k == 2) = false := by rw [beq_eq_false_iff_ne]; exact hk2
            have HBx := Lib.hid (HB.out.below ((Below.refl _ wr).alloc (Nat.le_refl _) (.cells #[.int .i64 a.k, .int .i64 a.f, .int .i64 a.t, .string a.s, .slice a.A a.len a.cap] 52)))
            have hbx := hb.alloc hb.size (.cells #[.int .i64 a.k, .int .i64 a.f, .int .i64 a.t, .string a.s, .slice a.A a.len a.cap] 52)
            have HC0 := Lib.hid (heap_alloc_new wr (.cells #[.int .i64 a.k, .int .i64 a.f, .int .i64 a.t, .string a.s, .slice a.A a.len a.cap] 52))
            go_wp2_with fail
            refine (two_edit _ _ _ _ _ _ _ _ _ _ _ HBx.out (by omega) hs100).mono ?_
            rintro e w4 ⟨er, rfl, hkt4, hb4, hc4⟩
            have hbx4 := hkt4 _ _ _ _ HC0.out (by decide) (by decide)
            have d1 : w4.cell? ⟨wr.heap.size, 1, none⟩ = some (.int .i64 a.f) := by rw [Lib.cell_of_heap hbx4]; rfl
            have d2 : w4.cell? ⟨wr.heap.size, 2, none⟩ = some (.int .i64 a.t) := by rw [Lib.cell_of_heap hbx4]; rfl
            have d3 : w4.cell? ⟨wr.heap.size, 3, none⟩ = some (.string a.s) := by rw [Lib.cell_of_heap hbx4]; rfl
            have hbl4 := below_tr hbx hb4 hz1
            have hal4 : Below w4.heap.size w4 (w4.alloc (.cells #[.int .i64 a.f, .int .i64 a.t, .string a.s] 35)) := (Below.refl _ w4).alloc (Nat.le_refl _) _
            have HC4 := Lib.hid (hc4 _ (some ⟨w4.heap.size, 0, none⟩) hal4 (by rw [World.size_alloc]; exact eds_one' w4 a.f a.t a.s))
            have hbl4' := below_tr hbl4 hal4 hbl4.size
            clear hc4 hb4 HBx hbx hkt4 hbx4 HC0 hal4 hbl4
            go_wp2_with fail
            refine HC4.out.mono ?_
            rintro e w5 ⟨rfl, hb5, T', ps', fs', hT5⟩
            have HB5 := Lib.hid hT5
            have hbl5 := below_tr hbl4' hb5 hz1
            clear hT5 hb5 HC4 hbl4' d1 d2 d3
            clear HB hb
            obtain ⟨Pa, Fa, Pb, Fb, made, na, nb, ha, hbb, hd, hbd⟩ := HB5.out
            have HAA := Lib.hid ha; have HBB := Lib.hid hbb
            clear ha hbb hd hbd
            go_wp2_with fail
            refine (his_text _ _ _ _ _ _ _ _ _ _ HAA.out).mono ?_
            rintro e w6 ⟨rfl, hb6⟩
            have HA6 := Lib.hid (HAA.out.below hb6); have HB6 := Lib.hid (HBB.out.below hb6)
            have hbl6 := below_tr hbl5 hb6 hbl5.size
            have HT6 := Lib.hid (HB5.out.below hb6)
            clear HAA HBB HB5 hbl5 hb6
            go_wp2_with fail
            refine (his_text _ _ _ _ _ _ _ _ _ _ HB6.out).mono ?_
            rintro e w7 ⟨rfl, hb7⟩
            have HA7 := Lib.hid (HA6.out.below hb7); have HB7 := Lib.hid (HB6.out.below hb7)
            have hbl7 := below_tr hbl6 hb7 hbl6.size
            have HT7 := Lib.hid (HT6.out.below hb7)
            clear HA6 HB6 HT6 hbl6 hb7
            go_wp2_with fail
            refine (his_past HA7.out).mono ?_
            rintro e w8 ⟨rfl, rfl⟩
            go_wp2_with fail
            refine (his_past HB7.out).mono ?_
            rintro e w8 ⟨rfl, rfl⟩
            go_wp2_with fail
            refine (his_future HA7.out).mono ?_
            rintro e w8 ⟨rfl, rfl⟩
            go_wp2_with fail
            refine (his_future HB7.out).mono ?_
            rintro e w8 ⟨rfl, rfl⟩
            go_wp2
            go_roundw
            case rel => exact ⟨k + 1, _, _, _, by omega, by go_num, HT7.out, hbl7⟩
            case measure => simp [intOf]; omega
        · go_wp2
          go_ret
          exact ⟨rfl, hb⟩
end Go.Proofs.Ytpifobaejmfppaa
