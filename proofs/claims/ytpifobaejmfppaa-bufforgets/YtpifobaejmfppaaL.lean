/- What edits.Between and the document's Lean answer. -/
import Derived.Test.YtpifobaejmfppaaK
import Derived.Deep.DeepCutAuto
namespace Go.Proofs.Ytpifobaejmfppaa
open Go.RowKit

/-- A lean edit, by its bytes. -/
def LeanOK (S : List UInt8) (e : Ed) : Prop :=
  ((goneOf S e = [] ∨ e.bs = []) ∧ ¬ (goneOf S e = [] ∧ e.bs = [])) ∨
  ∃ a b c d, (goneOf S e)[0]? = some a ∧ e.bs[0]? = some b ∧ a ≠ b ∧ (goneOf S e)[(goneOf S e).length - 1]? = some c ∧ e.bs[e.bs.length - 1]? = some d ∧ c ≠ d

set_option maxRecDepth 100000 in
set_option maxHeartbeats 2000000 in
theorem rlean_any (s x : ByteArray) (f t : Int) (w : World) (h1 : 0 ≤ f) (h2 : f ≤ t) (h3 : t ≤ s.size) (h4 : s.size ≤ 1099511627776) (h5 : x.size ≤ 1099511627776) (hL : LeanOK s.data.toList ⟨f, t, x⟩) :
    Calls Try.prog 21 #[.string s, .agg #[.int .i64 f, .int .i64 t, .string x]] w fun e w' => e = .returned (.bool true) ∧ Below w.heap.size w w' := by
  have hgs : (s.extract f.toNat t.toNat).size = t.toNat - f.toNat := by rw [ByteArray.size_extract]; omega
  have hgd : goneOf s.data.toList ⟨f, t, x⟩ = (s.extract f.toNat t.toNat).data.toList := (Lib.extract_data _ _ _).symm
  have hxd : (⟨f, t, x⟩ : Ed).bs = x.data.toList := rfl
  unfold LeanOK at hL
  rw [hgd, hxd] at hL
  clear hxd hgd
  have hln : ∀ y : ByteArray, y.data.toList = [] ↔ y.size = 0 := fun y => by rw [Lib.size_eq, List.eq_nil_iff_length_eq_zero]
  rw [hln, hln, ← Lib.size_eq, ← Lib.size_eq] at hL
  clear hln
  have hgb : (s.extract f.toNat t.toNat).size ≤ 1099511627776 := by omega
  have HLL := Lib.hid hL
  clear hL hgs
  go_enter Try.func21, Try.ntmps21
  go_upto_region 2 with fail
  generalize s.extract f.toNat t.toNat = g at *
  have hbw := (Below.refl w.heap.size w).alloc (Nat.le_refl _) (.cells #[.int .i64 f, .int .i64 t, .string x] 35)
  have HBW := Lib.hid hbw; clear hbw
  have hL := HLL.out
  clear HLL
  rcases hL with ⟨hL1, hL2⟩ | ⟨a, b, c, d, e1, e2, hab, e3, e4, hcd⟩
  · by_cases hz : g.size = 0
    · have q1 : ((g.size : Int) == 0) = true := beq_iff_eq.2 (by omega)
      have q2 : decide ((0 : Int) < (g.size : Int) + (x.size : Int)) = true := decide_eq_true (by omega)
      clear hL1 hL2 hz
      go_wp2
      go_ret
      exact ⟨rfl, HBW.out⟩
    · have q1 : ((g.size : Int) == 0) = false := beq_eq_false_iff_ne.2 (by omega)
      have q3 : ((x.size : Int) == 0) = true := beq_iff_eq.2 (by omega)
      have q2 : decide ((0 : Int) < (g.size : Int) + (x.size : Int)) = true := decide_eq_true (by omega)
      clear hL1 hL2 hz
      go_wp2
      go_ret
      exact ⟨rfl, HBW.out⟩
  · obtain ⟨g0, b1⟩ := byte_at _ _ _ e1
    obtain ⟨g1, b2⟩ := byte_at _ _ _ e2
    obtain ⟨dg, hdg⟩ : ∃ k, k = g.size - 1 := ⟨_, rfl⟩
    obtain ⟨dx, hdx⟩ : ∃ k, k = x.size - 1 := ⟨_, rfl⟩
    rw [← hdg] at e3
    rw [← hdx] at e4
    obtain ⟨g2, b3⟩ := byte_at _ _ _ e3
    obtain ⟨g3, b4⟩ := byte_at _ _ _ e4
    have q1 : ((g.size : Int) == 0) = false := beq_eq_false_iff_ne.2 (by omega)
    have q3 : ((x.size : Int) == 0) = false := beq_eq_false_iff_ne.2 (by omega)
    have p1 : IntKind.i64.wrap ((g.size : Int) - 1) = (dg : Int) := by rw [IntWalk.i64_in _ (by omega)]; omega
    have r1 : IntKind.i64.wrap ((x.size : Int) - 1) = (dx : Int) := by rw [IntWalk.i64_in _ (by omega)]; omega
    have i1 : (dg : Int) < g.size := by omega
    have i2 : (dx : Int) < x.size := by omega
    have i3 : (0 : Int) ≤ dg := by omega
    have i4 : (0 : Int) ≤ dx := by omega
    have i5 : (0 : Int) < g.size := by omega
    have i6 : (0 : Int) < x.size := by omega
    have n1 : ((g[0].toNat : Int) != (x[0].toNat : Int)) = true := by rw [b1, b2, bne_iff_ne]; exact fun h => hab (UInt8.toNat_inj.1 (by omega))
    have n2 : ((g[dg].toNat : Int) != (x[dx].toNat : Int)) = true := by rw [b3, b4, bne_iff_ne]; exact fun h => hcd (UInt8.toNat_inj.1 (by omega))
    clear e1 e2 e3 e4 b1 b2 b3 b4 hab hcd hdg hdx
    go_wp2_with fail
    go_quiet (fail)
    go_wp2
    go_ret
    exact ⟨rfl, below_drewN HBW.out _⟩

/-- What is left of an edit is an edit within it, lean. -/
theorem leanOf_spec (S : List UInt8) (e e' : Ed) (h1 : 0 ≤ e.f) (h2 : e.f ≤ e.t) (h3 : e.t ≤ S.length) (hm : e' ∈ leanOf S e) :
    leanOf S e = [e'] ∧ e'.f = e.f + nOf (goneOf S e) e.bs ∧ e'.t = e.t - mOf (goneOf S e) e.bs ∧ e'.bs = putOf (goneOf S e) e.bs ∧ e.f ≤ e'.f ∧ e'.f ≤ e'.t ∧ e'.t ≤ e.t ∧ goneOf S e' = ((goneOf S e).drop (nOf (goneOf S e) e.bs)).take ((goneOf S e).length - nOf (goneOf S e) e.bs - mOf (goneOf S e) e.bs) ∧ goneOf S e ≠ e.bs := by
  have hgl : (goneOf S e).length = e.t.toNat - e.f.toNat := by unfold goneOf; rw [List.length_take, List.length_drop]; omega
  have hnm := nm_le (goneOf S e) e.bs
  unfold leanOf at hm ⊢
  split at hm
  · simp at hm
  · rename_i hc
    rw [if_neg hc]
    have he := List.mem_singleton.1 hm
    subst he
    have hne : goneOf S e ≠ e.bs := fun h => hc ((lean_nil_iff _ _).2 h)
    generalize hn : nOf (goneOf S e) e.bs = n at *
    generalize hmm : mOf (goneOf S e) e.bs = m at *
    refine ⟨rfl, rfl, rfl, rfl, by show e.f ≤ e.f + n; omega, by show e.f + n ≤ e.t - m; omega, by show e.t - m ≤ e.t; omega, ?_, hne⟩
    show (S.drop (e.f + n).toNat).take ((e.t - m).toNat - (e.f + n).toNat) = _
    rw [hgl]
    unfold goneOf
    rw [List.drop_take, List.drop_drop, List.take_take]
    rw [show (e.f + (n : Int)).toNat = e.f.toNat + n by omega]
    congr 1; omega

theorem leanOf_ok (S : List UInt8) (e e' : Ed) (h1 : 0 ≤ e.f) (h2 : e.f ≤ e.t) (h3 : e.t ≤ S.length) (hm : e' ∈ leanOf S e) : LeanOK S e' := by
  obtain ⟨_, _, _, hb, _, _, _, hg, hne⟩ := leanOf_spec S e e' h1 h2 h3 hm
  have hnm := nm_le (goneOf S e) e.bs
  have hpl := putOf_len (goneOf S e) e.bs
  have hgl : (goneOf S e').length = (goneOf S e).length - nOf (goneOf S e) e.bs - mOf (goneOf S e) e.bs := by rw [hg, List.length_take, List.length_drop]; omega
  unfold LeanOK
  rw [hb]
  by_cases hz : goneOf S e' = [] ∨ putOf (goneOf S e) e.bs = []
  · refine .inl ⟨hz, fun h => hne ?_⟩
    have e1 := congrArg List.length h.1
    have e2 := congrArg List.length h.2
    rw [hgl] at e1
    simp at e1
    exact (lean_nil_iff _ _).1 ⟨by omega, h.2⟩
  · right
    have z1 : 0 < (goneOf S e').length := by
      rcases Nat.eq_zero_or_pos (goneOf S e').length with h | h
      · exact absurd (.inl (List.eq_nil_of_length_eq_zero h)) hz
      · exact h
    have z2 : 0 < (putOf (goneOf S e) e.bs).length := by
      rcases Nat.eq_zero_or_pos (putOf (goneOf S e) e.bs).length with h | h
      · exact absurd (.inr (List.eq_nil_of_length_eq_zero h)) hz
      · exact h
    generalize goneOf S e = G at *
    generalize e.bs = P at *
    have k1 : ∀ i, i < (goneOf S e').length → (goneOf S e')[i]? = G[nOf G P + i]? := fun i hi => by
      rw [hg, List.getElem?_take_of_lt (by omega), List.getElem?_drop]
    have k2 : ∀ i, i < (putOf G P).length → (putOf G P)[i]? = P[nOf G P + i]? := fun i hi => by
      unfold putOf; rw [List.getElem?_take_of_lt (by omega), List.getElem?_drop]
    obtain ⟨a, ha⟩ := List.getElem?_eq_some_iff.2 ⟨show nOf G P < G.length by omega, rfl⟩ |> fun h => (⟨_, h⟩ : ∃ a, G[nOf G P]? = some a)
    obtain ⟨b, hb2⟩ : ∃ b, P[nOf G P]? = some b := ⟨_, List.getElem?_eq_getElem (show nOf G P < P.length by omega)⟩
    obtain ⟨c, hc⟩ : ∃ c, G[G.length - 1 - mOf G P]? = some c := ⟨_, List.getElem?_eq_getElem (show G.length - 1 - mOf G P < G.length by omega)⟩
    obtain ⟨d, hd⟩ : ∃ d, P[P.length - 1 - mOf G P]? = some d := ⟨_, List.getElem?_eq_getElem (show P.length - 1 - mOf G P < P.length by omega)⟩
    refine ⟨a, b, c, d, ?_, ?_, first_differs G P a b ha hb2, ?_, ?_, last_differs G P c d (by omega) (by omega) hc hd⟩
    · rw [k1 0 z1]; exact ha
    · rw [k2 0 z2]; exact hb2
    · rw [k1 _ (by omega), ← hc]; congr 1; omega
    · rw [k2 _ (by omega), ← hd]; congr 1; omega

/-- What is left of an edit makes what it makes. -/
theorem leanOf_appl (S : List UInt8) (e : Ed) (r r' : List Ed) (a : Nat) (h1 : (a : Int) ≤ e.f) (h2 : e.f ≤ e.t) (h3 : e.t ≤ S.length) (hr : ∀ b : Nat, (b : Int) ≤ e.t → (S.drop b).take (e.t.toNat - b) ++ appl S e.t.toNat r = appl S b r') :
    appl S a (leanOf S e ++ r') = appl S a (e :: r) := by
  have hgl : (goneOf S e).length = e.t.toNat - e.f.toNat := by unfold goneOf; rw [List.length_take, List.length_drop]; omega
  have hnm := nm_le (goneOf S e) e.bs
  have hsplit : ∀ x y : Nat, x ≤ y → S.drop x = (S.drop x).take (y - x) ++ S.drop y := fun x y hxy => by
    have := (List.take_append_drop (y - x) (S.drop x)).symm
    rwa [List.drop_drop, show x + (y - x) = y by omega] at this
  have hmid : ∀ x y z : Nat, x ≤ y → y ≤ z → (S.drop x).take (z - x) = (S.drop x).take (y - x) ++ (S.drop y).take (z - y) := fun x y z hxy hyz => by
    rw [show z - x = (y - x) + (z - y) by omega, List.take_add, List.drop_drop, show x + (y - x) = y by omega]
  by_cases hc : goneOf S e = e.bs
  · have hl : leanOf S e = [] := by unfold leanOf; rw [if_pos ((lean_nil_iff _ _).2 hc)]
    rw [hl, List.nil_append, ← hr a (by omega), appl_cons, ← hc, ← List.append_assoc]
    congr 1
    unfold goneOf
    exact hmid a e.f.toNat e.t.toNat (by omega) (by omega)
  · have hl : leanOf S e = [⟨e.f + nOf (goneOf S e) e.bs, e.t - mOf (goneOf S e) e.bs, ⟨(putOf (goneOf S e) e.bs).toArray⟩⟩] := by
      unfold leanOf; rw [if_neg (fun h => hc ((lean_nil_iff _ _).1 h))]
    have hp := put_eq (goneOf S e) e.bs
    rw [hl, List.singleton_append, appl_cons, appl_cons]
    show (S.drop a).take ((e.f + nOf (goneOf S e) e.bs).toNat - a) ++ (putOf (goneOf S e) e.bs ++ appl S (e.t - mOf (goneOf S e) e.bs).toNat r') = _
    rw [← hr (e.t - mOf (goneOf S e) e.bs).toNat (by omega)]
    conv => rhs; rw [hp]
    generalize hn : nOf (goneOf S e) e.bs = n at *
    generalize hm : mOf (goneOf S e) e.bs = m at *
    have e1 : (S.drop a).take ((e.f + (n : Int)).toNat - a) = (S.drop a).take (e.f.toNat - a) ++ (goneOf S e).take n := by
      rw [hmid a e.f.toNat (e.f + (n : Int)).toNat (by omega) (by omega)]
      congr 1
      unfold goneOf
      rw [List.take_take]; congr 1; omega
    have e2 : (S.drop (e.t - (m : Int)).toNat).take (e.t.toNat - (e.t - (m : Int)).toNat) = (goneOf S e).drop ((goneOf S e).length - m) := by
      rw [hgl]
      unfold goneOf
      rw [List.drop_take, List.drop_drop]
      congr 1
      · omega
      · congr 1; omega
    rw [e1, e2]
    simp only [List.append_assoc]
end Go.Proofs.Ytpifobaejmfppaa
