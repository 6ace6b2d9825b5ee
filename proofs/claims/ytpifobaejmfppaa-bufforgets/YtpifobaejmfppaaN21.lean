/- What Slice and At tell of a buffer. -/
import Derived.Test.YtpifobaejmfppaaN20
import Derived.Test.YtpifobaejmfppaaN2
namespace Go.Proofs.Ytpifobaejmfppaa
open Go.RowKit

theorem right_one (z f t : Int) (s : ByteArray) : rightB 0 z [(⟨f, t, s⟩ : Ed)] = decide (0 ≤ f ∧ f ≤ t ∧ t ≤ z) := by
  cases h : rightB 0 z [(⟨f, t, s⟩ : Ed)] with
  | true =>
    rw [rightB_cons, Bool.and_eq_true, Ed.okB_iff] at h
    exact (decide_eq_true h.1).symm
  | false =>
    refine (decide_eq_false fun hh => ?_).symm
    have : rightB 0 z [(⟨f, t, s⟩ : Ed)] = true := by rw [rightB_cons, Bool.and_eq_true, Ed.okB_iff]; exact ⟨hh, rfl⟩
    rw [h] at this; cases this

set_option maxHeartbeats 1000000 in
theorem bslice_no (Bf : Nat) (p f : Value) (made : Int) (A : Option Addr) (n c : Nat) (L : List Pc) (T : List UInt8) (N : Nat) (x y : Int) (w : World) (h : TxAt w N Bf p f made A n c L T) (hR : ¬ (0 ≤ x ∧ x ≤ y ∧ y ≤ T.length)) :
    Calls Try.prog 38 #[.pointer (some ⟨Bf, 0, none⟩), .int .i64 x, .int .i64 y] w fun e w' => e = .returned (.tuple #[.string ⟨#[]⟩, .int .i64 2]) ∧ Below w.heap.size w w' := by
  have HR := Lib.hid (show rightB 0 T.length [(⟨x, y, ⟨#[]⟩⟩ : Ed)] = false by rw [right_one]; exact decide_eq_false hR)
  have hbf := h.bf
  obtain ⟨z, hz⟩ : ∃ z, z = T.length := ⟨_, rfl⟩
  rw [← hz] at HR hbf
  have HB := Lib.hid hbf
  clear h hR hbf hz
  go_enter Try.func38, Try.ntmps38
  go_wp2_with fail
  refine (blen_any HB.out).mono ?_
  rintro e w1 ⟨rfl, rfl⟩
  have hb0 := (Below.refl w1.heap.size w1).alloc (Nat.le_refl _) (.cells #[.int .i64 x, .int .i64 y, .string ⟨#[]⟩] 35)
  go_wp2_with fail
  refine (right_any z (some ⟨w1.heap.size, 0, none⟩) 1 1 [⟨x, y, ⟨#[]⟩⟩] _ rfl (Nat.le_refl _) (by omega) (eds_new1 x y ⟨#[]⟩ w1)).mono ?_
  rintro e w2 ⟨rfl, hb2⟩
  rw [HR.out]
  have hb2' := below_tr hb0 hb2 hb0.size
  go_wp2
  go_ret2
  exact ⟨rfl, hb2'⟩

set_option maxRecDepth 100000 in
set_option maxHeartbeats 2000000 in
theorem bslice_ok (Bf : Nat) (p f : Value) (made : Int) (A : Option Addr) (n c : Nat) (L : List Pc) (T : List UInt8) (N : Nat) (x y : Nat) (w : World) (h : TxAt w N Bf p f made A n c L T) (hxy : x ≤ y) (hyT : y ≤ T.length) (hT : T.length ≤ 1048576) :
    Calls Try.prog 38 #[.pointer (some ⟨Bf, 0, none⟩), .int .i64 x, .int .i64 y] w fun e w' => e = .returned (.tuple #[.string ⟨((T.drop x).take (y - x)).toArray⟩, .int .i64 0]) ∧ Below w.heap.size w w' := by
  have HR := Lib.hid (show rightB 0 T.length [(⟨x, y, ⟨#[]⟩⟩ : Ed)] = true by rw [right_one]; exact decide_eq_true ⟨by omega, by omega, by omega⟩)
  have HH := Lib.hid h
  have hbf := h.bf
  obtain ⟨z, hz⟩ : ∃ z, z = T.length := ⟨_, rfl⟩
  rw [← hz] at HR hbf hyT hT
  have HB := Lib.hid hbf; have HZ := Lib.hid hz
  clear h hbf hz
  go_enter Try.func38, Try.ntmps38
  go_wp2_with fail
  refine (blen_any HB.out).mono ?_
  rintro e w1 ⟨rfl, rfl⟩
  have hb0 := (Below.refl w1.heap.size w1).alloc (Nat.le_refl _) (.cells #[.int .i64 x, .int .i64 y, .string ⟨#[]⟩] 35)
  go_wp2_with fail
  refine (right_any z (some ⟨w1.heap.size, 0, none⟩) 1 1 [⟨x, y, ⟨#[]⟩⟩] _ rfl (Nat.le_refl _) (by omega) (eds_new1 x y ⟨#[]⟩ w1)).mono ?_
  rintro e w2 ⟨rfl, hb2⟩
  rw [HR.out]
  have hb2' := below_tr hb0 hb2 hb0.size
  have hkt : KT w1 w2 := fun i cs t fz hi _ _ => (hb2'.block i (lt_of_heap hi)).trans hi
  have htx2 : TxAt w2 N Bf p f made A n c L T := HH.out.kt hkt (HH.out.bf.bl hb2')
  obtain ⟨hcut, hrem, G, hG, hAG⟩ := htx2.cut
  have c3 := htx2.bf.c3
  have hLg : ∀ q ∈ L, q.g < w2.heap.size := fun q hq => pc_lt (htx2.pcs q hq).1
  have HCUT := Lib.hid hcut; have HREM := Lib.hid hrem; have HAG := Lib.hid hAG; have HLG := Lib.hid hLg; have HB2 := Lib.hid hb2'
  clear hb0 hb2 hb2' hkt htx2 hcut hrem hAG hLg
  go_wp2_with fail
  refine (cut_any w2.heap.size G 65 #[] (fun _ w' => Kb (fun i => i = w2.heap.size) (w2.alloc (.cells #[.slice A n c, .int .i64 0] 99)) w') (fun i => i < w2.heap.size + 1) L [] T x 1099511627776 (w2.alloc (.cells #[.slice A n c, .int .i64 0] 99)) ?_ (by rw [← HZ.out]; omega) (by omega) (by simp; omega) (by omega) (by omega) (fun p h => by have := HLG.out p h; omega) (by omega) ?_ cf65 ?_).mono ?_
  · exact ⟨x, L, n, 0, A, c, Nat.le_refl _, rfl, HCUT.out, ⟨[], rfl⟩, Kb.refl _ _, by rw [Nat.sub_self, List.drop_zero]; exact HREM.out, HAG.out, fun _ _ _ => rfl, Nat.le_refl _⟩
  · rintro q C' w1' i1 hq hK hne _ hl hsz
    refine (hand65 q.val w1').mono ?_
    rintro e w3 ⟨rfl, rfl⟩
    exact ⟨rfl, i1, fun _ _ => rfl, Nat.le_refl _⟩
  · rintro C' w1' w3 i1 hag hsz ho ht hout
    exact i1.trans ⟨ho, ht, hout, by omega, fun i _ hn => hag i hn⟩ (fun i _ h => h)
  rintro e w3 ⟨rfl, m, L', nl', off', A', c', _, hi0, hcut', hpre', i1, hrem', hA', _, _⟩
  have hm0 : m = 0 := by injection hi0 with _ h; omega
  subst hm0
  rw [Nat.sub_zero] at hrem'
  have HC3 := Lib.hid hcut'; have HR3 := Lib.hid hrem'; have HA3 := Lib.hid hA'; have HK3 := Lib.hid i1
  have hsz3 : w2.heap.size + 1 ≤ w3.heap.size := by have := i1.size; simp at this; omega
  clear hcut' hpre' hrem' hA' i1 hi0
  obtain ⟨m1, hm1⟩ : ∃ m1, m1 = y - x := ⟨_, rfl⟩
  have p1 : IntKind.i64.wrap ((y : Int) - (x : Int)) = (m1 : Int) := by rw [IntWalk.i64_in _ (by omega)]; omega
  have HM1 := Lib.hid hm1; clear hm1
  go_wp2_with fail
  refine (bgather_any w2.heap.size G L' nl' off' A' c' (T.drop x) m1 w3 HC3.out HA3.out HR3.out (by rw [List.length_drop, ← HZ.out, HM1.out]; omega) (by rw [HM1.out]; omega) (by omega) (by omega)).mono ?_
  rintro e w4 ⟨rfl, _, _, _, _, _, _, _, _, _, hk4⟩
  have HK4 := Lib.hid hk4; clear hk4
  clear p1
  go_wp2
  go_ret2
  have hmm := HM1.out
  subst hmm
  refine ⟨rfl, ?_⟩
  have hb3 : Below w1.heap.size w1 w3 := (HB2.out.alloc HB2.out.size _).trans (HK3.out.below (by have := HB2.out.size; simp; omega) (fun i h => by rw [h]; exact HB2.out.size))
  exact hb3.trans (HK4.out.below (by have := HB2.out.size; omega) (fun i h => by rw [h]; exact HB2.out.size))

theorem at_neg (Bf : Nat) (x : Int) (w : World) (hx : x < 0) :
    Calls Try.prog 39 #[.pointer (some ⟨Bf, 0, none⟩), .int .i64 x] w fun e w' => e = .returned (.tuple #[.int .u8 0, .bool false]) ∧ w' = w := by
  go_enter Try.func39, Try.ntmps39
  go_wp2
  go_ret2
  exact ⟨rfl, rfl⟩

/-- What At answers. -/
def AtBack (T : List UInt8) (x : Nat) (e : Ending) : Prop := (∀ b, T[x]? = some b → e = .returned (.tuple #[.int .u8 b.toNat, .bool true])) ∧ (T[x]? = none → e = .returned (.tuple #[.int .u8 0, .bool false]))

set_option maxRecDepth 100000 in
set_option maxHeartbeats 2000000 in
theorem at_any (Bf : Nat) (p f : Value) (made : Int) (A : Option Addr) (n c : Nat) (L : List Pc) (T : List UInt8) (N : Nat) (x : Nat) (w : World) (h : TxAt w N Bf p f made A n c L T) (hx : x ≤ 9223372036854775807) :
    Calls Try.prog 39 #[.pointer (some ⟨Bf, 0, none⟩), .int .i64 x] w fun e w' => AtBack T x e ∧ w' = w := by
  have c3 := h.bf.c3
  obtain ⟨hnc, hcm⟩ := own_cap h.own
  have hcells : ∀ (j : Nat) (q : Pc), L[j]? = some q → ∃ g, A = some ⟨g, 0, none⟩ ∧ w.cell? ⟨g, j, none⟩ = some q.val := by
    intro j q hj
    rcases h.own.2 with ⟨hv, h0⟩ | ⟨g, cap, cur, hv, hbg, hg, hr⟩
    · have := (List.getElem?_eq_some_iff.1 hj).1
      have := h.ln
      omega
    · have hA : A = some ⟨g, 0, none⟩ := by injection hv
      subst hA
      refine ⟨g, rfl, ?_⟩
      have e0 := h.own.cells (g := g) rfl j q.val (by rw [List.getElem?_map, hj]; rfl)
      rw [add_none] at e0
      exact e0
  have HC := Lib.hid hcells; have HH := Lib.hid h
  clear hcells h
  go_enter Try.func39, Try.ntmps39
  go_wp2_with fail
  go_loopw [1, 19] (fun v i wr => ∃ (k m : Nat), k ≤ n ∧ i = .int .i64 k ∧ v = .int .i64 m ∧ m ≤ 9223372036854775807 ∧ Hid ((pcText (L.drop k))[m]? = T[x]?) ∧ w = wr) (fun _ i _ => n - (intOf i).toNat)
  case atStart => exact ⟨0, x, Nat.zero_le _, rfl, rfl, hx, by show _ = _; rw [List.drop_zero, HH.out.tx], rfl⟩
  case round =>
    obtain ⟨k, m, hk, rfl, rfl, hm, HM, rfl⟩ := hrel
    by_cases hlt : k < n
    · obtain ⟨q, hq⟩ := get_some L k (by rw [HH.out.ln]; exact hlt)
      have HD := Lib.hid (drop_cons_of hq)
      obtain ⟨g, rfl, cq⟩ := HC.out k q hq
      unfold Pc.val at cq
      obtain ⟨hpat, hq0, hq1⟩ := HH.out.pcs q (List.mem_of_getElem? hq)
      obtain ⟨ql, hql⟩ : ∃ ql, ql = q.bs.length := ⟨_, rfl⟩
      rw [← hql] at cq hq0 hq1
      have HQ := Lib.hid hql; clear hql hq
      by_cases hml : m < ql
      · obtain ⟨b, hb⟩ := get_some q.bs m (by rw [← HQ.out]; exact hml)
        obtain ⟨cur, fz, hgg, hcur⟩ := hpat
        have cb : w.cell? ⟨q.g, q.o + m, none⟩ = some (.int .u8 b.toNat) := by rw [Lib.cell_of_heap hgg]; exact hcur m b hb
        have HTX := Lib.hid (show T[x]? = some b by rw [← HM.out, HD.out, pcText, List.getElem?_append_left (by rw [← HQ.out]; exact hml)]; exact hb)
        have u1 : (m : Int) < (ql : Int) := by omega
        clear hcur hgg hb
        go_wp2
        go_ret2
        refine ⟨⟨fun b' hb' => ?_, fun hn => ?_⟩, rfl⟩
        · rw [HTX.out] at hb'
          injection hb' with hb'
          rw [hb']
          rfl
        · rw [HTX.out] at hn; cases hn
      · have p1 : IntKind.i64.wrap ((m : Int) - (ql : Int)) = (m : Int) - (ql : Int) := IntWalk.i64_in _ (by omega)
        clear hpat
        go_wp2
        go_roundw
        case rel =>
          refine ⟨k + 1, m - ql, by omega, by go_num, by go_num, by omega, ?_, trivial⟩
          show _ = _
          rw [← HM.out, HD.out, pcText, List.getElem?_append_right (by rw [← HQ.out]; omega), HQ.out]
        case measure => simp [intOf]; omega
    · have HTX := Lib.hid (show T[x]? = none by rw [← HM.out, List.drop_of_length_le (by rw [HH.out.ln]; omega)]; rfl)
      go_wp2
      go_ret2
      refine ⟨⟨fun b hb => ?_, fun _ => rfl⟩, rfl⟩
      rw [HTX.out] at hb; cases hb
end Go.Proofs.Ytpifobaejmfppaa
