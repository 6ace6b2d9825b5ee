/- What read does: a byte is read, and all that follows. -/
import Derived.Test.YtejdfpieblkapaaM13
namespace Go.Proofs.Ytejdfpieblkapaa
open Go.RowKit

theorem and1 (x : Nat) : bits .and .u64 (x : Int) 1 = ((x % 2 : Nat) : Int) := by
  have h1 : (BitVec.ofInt 64 (x : Int)).toNat = x % 2 ^ 64 := by
    rw [BitVec.ofInt_natCast, BitVec.toNat_ofNat]
  have h3 : (BitVec.ofInt 64 (1 : Int)).toNat = 1 := by decide
  show IntKind.u64.wrap ((BitVec.ofInt 64 (x : Int) &&& BitVec.ofInt 64 (1 : Int)).toNat : Int) = _
  rw [BitVec.toNat_and, h1, h3, Nat.and_two_pow_sub_one_eq_mod _ 1]
  rw [IntKind.wrap_u64]
  omega

theorem on_get {g : Gh} : ∀ {l : List Nat} {ps : List Path} {k x : Nat}, On g l ps → l[k]? = some x → ∃ p, ps[k]? = some p ∧ g.σ p = some x := by
  intro l ps k x h hx
  have : (l.map some)[k]? = some (some x) := by rw [List.getElem?_map, hx]; rfl
  rw [h, List.getElem?_map] at this
  obtain ⟨p, hp, hh⟩ := Option.map_eq_some_iff.1 this
  exact ⟨p, hp, hh⟩
theorem own_get {w : World} {base n : Nat} {A : Option Addr} {c i : Nat} {xs : List Value} {x : Value} (h : w.ownsRow base 64 1 (.slice A n c) n xs) (hi : xs[i]? = some x) : ∃ g, A = some ⟨g, 0, none⟩ ∧ w.cell? ⟨g, i, none⟩ = some x ∧ c ≤ 9223372036854775807 := by
  rcases h.2 with ⟨hv, hn⟩ | ⟨g, cap, cur, hv, hb, hh, h1, h2, h3, h4⟩
  · have := h.1
    rw [hn] at this
    have : xs = [] := List.length_eq_zero_iff.1 (by omega)
    subst this; simp at hi
  · injection hv with e1 e2 e3
    refine ⟨g, e1, ?_, by unfold maxLen at h2; omega⟩
    rw [Lib.cell_of_heap hh]
    rw [← h4] at hi
    have hlt : i < n * 1 := by
      have := (List.getElem?_eq_some_iff.1 hi).1
      rw [List.length_take] at this
      omega
    rw [List.getElem?_take_of_lt hlt] at hi
    simpa using hi
theorem own_zero {w : World} {base n c m : Nat} {A : Option Addr} {xs : List Value} (h : w.ownsRow base 64 1 (.slice A n c) m xs) : w.ownsRow base 64 1 (.slice A 0 c) ([] : List Nat).length (([] : List Nat).map ptr) := by
  refine ⟨rfl, ?_⟩
  rcases h.2 with ⟨hv, hn⟩ | ⟨g, cap, cur, hv, hb, hh, h1, h2, h3, h4⟩
  · injection hv with e1 e2 e3
    exact .inl ⟨by rw [e1, e3], rfl⟩
  · injection hv with e1 e2 e3
    exact .inr ⟨g, cap, cur, by rw [e1, e3]; rfl, hb, hh, Nat.zero_le _, h2, h3, by simp⟩
theorem clear_none (w : World) : (Builtin.clear_ #[71] 0 #[.map none]).run Try.prog w = .ok (.tuple #[]) w := by
  simp [Builtin.clear_, run_underlying Try.underlying71, Result.andThen]
theorem set_cell {w : World} {s : Ws} {nb j : Nat} (h : NdAt w (.set s) nb) (hj : j < 4) : w.cell? ⟨nb, 1 + j, none⟩ = some (.int .u64 (s.word j)) := by
  have h' : NdB w (.set s) nb (.slice none 0 0) := h
  unfold NdB at h'
  rw [Lib.cell_of_heap h']
  rcases (show j = 0 ∨ j = 1 ∨ j = 2 ∨ j = 3 by omega) with rfl | rfl | rfl | rfl <;> rfl

set_option maxRecDepth 100000 in
set_option maxHeartbeats 4000000 in
theorem read_any (r : Rx) (u : List UInt8) (c : UInt8) (τ root base R : Nat) (g : Gh) (w : World) (bv ev sv : Value) (Sl : List Nat) (PS : List Path) (hr : RnAt w base R τ bv ev sv [] [] Sl) (hs : SpAt w r g root) (hst : St r u τ g.bg g.en [] [] PS) (os : On g Sl PS) (hl : Sl.length ≤ r.size) (hbase : base ≤ w.heap.size) (hbR : base ≤ R) (hroot : base ≤ root) (hτ : τ ≤ 900000) (hsz : r.size ≤ 16384) :
    Calls Try.prog 29 #[ptr R, .int .u8 c.toNat] w fun e w' => e = .returned (.tuple #[]) ∧ Settled r (c :: u) (τ + 1) root base R g w w' := by
  have r0 := rn_c0 hr
  have f0 : w.frozen? ⟨R, 0, none⟩ = false := Lib.frozen_of_heap hr.blk 0
  have hwr : IntKind.i64.wrap ((τ : Int) + 1) = ((τ + 1 : Nat) : Int) := by rw [IntWalk.i64_in _ (by omega)]; omega
  obtain ⟨a1, a2, a3⟩ := rn_set0 (τ' := τ + 1) hr hbR hbase
  have hs1 := hs.kr a2 ⟨_, hr.blk⟩
  have s3 := rn_c3 a1
  obtain ⟨A3, c3, e3, hA1, hA2⟩ := own_form hr.so
  obtain ⟨ns, hns⟩ : ∃ ns, ns = Sl.length := ⟨_, rfl⟩
  rw [← hns] at e3
  have HH := Lib.hid (And.intro a1 (And.intro hs1 (And.intro a3 (And.intro hst (And.intro os (And.intro hns (And.intro hl hsz)))))))
  subst e3
  generalize hτ1 : (((τ + 1 : Nat) : Int)) = τ1 at *
  have HT := Lib.hid hτ1
  clear hr hs hst os a1 a2 a3 hs1 hns hl hA1 hA2 hτ1
  obtain ⟨nc, hnc⟩ : ∃ nc, nc = c.toNat := ⟨_, rfl⟩
  rw [← hnc]
  have hnc2 : nc < 256 := by rw [hnc]; exact c.toNat_lt
  have HC := Lib.hid hnc
  clear hnc
  go_enter Try.func29, Try.ntmps29
  go_wp2_with fail
  generalize hw1 : w.setCell ⟨R, 0, none⟩ (.int .i64 τ1) = w1 at HH ⊢
  clear s3 r0 f0 hwr hw1
  go_loopw [18] (fun i wr => ∃ (k : Nat) (ev' : Value) (El : List Nat), k ≤ ns ∧ i = .int .i64 k ∧ Hid (RnAt wr base R (τ + 1) bv ev' (.slice A3 ns c3) [] El Sl ∧ SpAt wr r g root ∧ Fr base w wr ∧ On g El ((PS.take k).filter (hasAt r c)) ∧ El.length ≤ k)) (fun i _ => ns - (intOf i).toNat)
  case' round => have hns2 : ns ≤ 16384 := by have := HH.out.2.2.2.2.2; omega
  case atStart => exact ⟨0, ev, [], Nat.zero_le _, rfl, HH.out.1, HH.out.2.1, HH.out.2.2.1, rfl, Nat.le_refl _⟩
  case round =>
    obtain ⟨k, ev', El, hk, rfl, HL⟩ := hrel
    by_cases hlt : k < ns
    · obtain ⟨hr, hs, hb, oe, hel⟩ := HL.out
      obtain ⟨x, hx⟩ : ∃ x, Sl[k]? = some x := ⟨Sl[k]'(by rw [← HH.out.2.2.2.2.2.1]; exact hlt), List.getElem?_eq_getElem _⟩
      obtain ⟨p, hp, hpx⟩ := on_get HH.out.2.2.2.2.1 hx
      obtain ⟨_, s, hat⟩ := HH.out.2.2.2.1.qs p (List.mem_of_getElem? hp)
      obtain ⟨gS, hA3, hcell, hc3⟩ := own_get (own_len hr.so HH.out.2.2.2.2.2.1.symm) (i := k) (x := ptr x) (by rw [List.getElem?_map, hx]; rfl)
      subst hA3
      obtain ⟨e, nb, h1, h2, h3⟩ := hs.at' p x hpx
      rw [hat] at h1
      injection h1 with h1
      subst h1
      have x0 : wr.cell? ⟨x, 0, none⟩ = some (.pointer (some ⟨nb, 0, none⟩)) := by unfold SpB at h3; rw [Lib.cell_of_heap h3]; rfl
      have d1 : wr.cell? ⟨nb, 1 + nc / 64, none⟩ = some (.int .u64 (s.word (nc / 64))) := set_cell h2 (by omega)
      generalize hW : s.word (nc / 64) = W at d1
      have hki : (k : Int) < ns := by omega
      have hk0 : (0 : Int) ≤ k := by omega
      obtain ⟨eA, ec, he', hE1, hE2⟩ := own_form hr.eo
      obtain ⟨ne, hne⟩ : ∃ ne, ne = El.length := ⟨_, rfl⟩
      rw [← hne] at he' hE1
      subst he'
      have r2 := rn_c2 hr
      have HO := Lib.hid (own_len hr.eo hne.symm)
      have hRl := lt_of_heap hr.blk
      have hnel : ne ≤ 16384 := by have := HH.out.2.2.2.2.2; omega
      have hbw : base ≤ wr.heap.size := Nat.le_trans hbase hb.size
      obtain ⟨i0, hi0, hz0, hz1, hz2⟩ := info_parts Try.info64
      have HI := Lib.hid hi0; have HZ0 := Lib.hid hz0; have HZ1 := Lib.hid hz1; have HZ2 := Lib.hid hz2
      clear hi0 hz0 hz1 hz2
      have hbit : bits BinOp.and IntKind.u64 ((W : Int) / 2 ^ (nc % 64)) 1 = ((W / 2 ^ (nc % 64) % 2 : Nat) : Int) := by
        rw [← and1]; norm_cast
      have hhas : hasAt r c p = (W / 2 ^ (nc % 64) % 2 == 1) := by
        unfold hasAt; rw [hat]; show s.has c = _
        unfold Ws.has; rw [← HC.out, hW]
      have htk : PS.take (k + 1) = PS.take k ++ [p] := by
        rw [List.take_add_one, hp]; rfl
      rcases (show W / 2 ^ (nc % 64) % 2 = 1 ∨ W / 2 ^ (nc % 64) % 2 = 0 by omega) with hbb | hbb
      · rw [hbb] at hbit hhas
        have hbit' : bits BinOp.and IntKind.u64 ((W : Int) / 2 ^ (nc % 64)) 1 = 1 := hbit
        have HX := Lib.hid (And.intro hpx (And.intro hhas (And.intro htk hne)))
        clear hr hs hb oe hel h2 h3 hp hpx hat hx hW hbb hhas htk hne hbit
        go_wp2_with (at_builtin; refine wpList_append_lies _ rfl _ _ 66 rfl base 64 i0 _ 1 8 Try.underlying66 HI.out HZ0.out HZ1.out HZ2.out rfl (by omega) (.slice eA ne ec) ne _ rfl (HO.out.alloc _) ⟨wr.heap.size, 0, none⟩ 1 1 [ptr x] rfl rfl (World.news_of_block (cs := #[ptr x]) (t := 64) (fr := (0, 0)) (heap_alloc_new wr _)) (by simp [Value.oneCell']) (by omega) (by unfold maxLen; omega) (by omega) (by simp; omega) (wr.heap.size + 1) (by simp) ?_)
        intro gg cap6 w6 hown6 hgrow6 hat6 hlt6
        obtain ⟨hr, hs, hb, oe, hel⟩ := HL.out
        have hg6 := grown_kb hgrow6
        have hR6 := rn_blk_far hr.eo hr hg6
        have ef3 : w6.frozen? ⟨R, 2, none⟩ = false := Lib.frozen_of_heap hR6 2
        have ec3 : w6.cell? ⟨R, 2, none⟩ = some (.slice eA ne ec) := by rw [Lib.cell_of_heap hR6]; rfl
        have hll : (El ++ [x]).length = ne + 1 := by rw [List.length_append, HX.out.2.2.2]; rfl
        obtain ⟨a1, a2, a3⟩ := rn_push2 (new := [x]) hr hg6 (by rw [hll, List.map_append]; exact hown6) (hat6.elim (fun h => .inl (by rw [h]; rfl)) (fun h => .inr ⟨gg, rfl, by omega⟩)) hbR hbw
        have HN := Lib.hid (And.intro a1 (And.intro (hs.kr a2 ⟨_, hr.blk⟩) (hb.trans a3)))
        clear hr hs hb a1 a2 a3 hown6 hgrow6 hat6 hlt6 hg6 hR6 hll
        go_wp2
        go_roundw
        case rel => exact ⟨k + 1, _, El ++ [x], by omega, by go_num, HN.out.1, HN.out.2.1, HN.out.2.2, by rw [HX.out.2.2.1, List.filter_append, List.filter_cons, HX.out.2.1]; exact on_append oe (by simp [On, HX.out.1]), by rw [List.length_append, List.length_singleton]; omega⟩
        case measure => simp [intOf]; omega
      · rw [hbb] at hbit hhas
        have hbit' : bits BinOp.and IntKind.u64 ((W : Int) / 2 ^ (nc % 64)) 1 = 0 := hbit
        have HX := Lib.hid (And.intro hpx (And.intro hhas htk))
        clear hr hs hb oe hel h2 h3 hp hpx hat hx hW hbb hhas htk hne hbit
        go_wp2
        go_roundw
        case rel =>
          obtain ⟨hr, hs, hb, oe, hel⟩ := HL.out
          exact ⟨k + 1, _, El, by omega, by go_num, hr, hs, hb, by rw [HX.out.2.2, List.filter_append, List.filter_cons, HX.out.2.1]; simpa using oe, by omega⟩
        case measure => simp [intOf]; omega
    · obtain rfl : k = ns := by omega
      obtain ⟨hr, hs, hb, oe, hel⟩ := HL.out
      have s3 := rn_c3 hr
      have s5 : wr.cell? ⟨R, 5, none⟩ = some (.map none) := by rw [Lib.cell_of_heap hr.blk]; rfl
      have f3 : wr.frozen? ⟨R, 3, none⟩ = false := Lib.frozen_of_heap hr.blk 3
      have hbw : base ≤ wr.heap.size := Nat.le_trans hbase hb.size
      obtain ⟨a1, a2, a3⟩ := rn_set3 (Sl' := []) hr (own_zero hr.so) (by cases A3 <;> rfl) hbR hbw
      have hs2 := hs.kr a2 ⟨_, hr.blk⟩
      have t5 : (wr.setCell ⟨R, 3, none⟩ (.slice A3 0 c3)).cell? ⟨R, 5, none⟩ = some (.map none) := by rw [Lib.cell_of_heap a1.blk]; rfl
      have htk : PS.take k = PS := List.take_of_length_le (by rw [← on_len HH.out.2.2.2.2.1, ← HH.out.2.2.2.2.2.1]; exact Nat.le_refl _)
      rw [htk] at oe
      have hst := HH.out.2.2.2.1.read c
      have hcb := cnt_le g.bg (τ + 1) r.all
      have hce := cnt_le g.en (τ + 1) r.all
      rw [Rx.all_length] at hcb hce
      have hkk : k ≤ r.size := by have := HH.out.2.2.2.2.2; omega
      have hw2 : base ≤ (wr.setCell ⟨R, 3, none⟩ (.slice A3 0 c3)).heap.size := Nat.le_trans hbw a3.size
      have HC2 := Lib.hid (settle_any r (c :: u) (τ + 1) root base R g _ (0 + El.length + 4 * (cnt g.bg (τ + 1) r.all + cnt g.en (τ + 1) r.all)) ⟨_, _, _, g, [], El, [], [], _, [], a1, hs2, Fr.refl _ _, hst, rfl, oe, rfl, fun _ _ h => h, rfl, by omega, by simp only [List.length_nil]; omega⟩ hw2 hbR hroot (by omega) hsz)
      have HB2 := Lib.hid (hb.trans a3)
      clear hr hs hb oe hel a1 a2 a3 hs2 hst hcb hce hkk htk hw2
      have hclr : ∀ w' : World, (Builtin.clear_ #[71] 0 #[.map none]).run Try.prog w' = .ok (.tuple #[]) w' := clear_none
      go_wp2_with fail
      refine HC2.out.mono ?_
      rintro e w3 ⟨rfl, bv', ev2, sv', g', Sl', PS', q1, q2, q3, q4, q5, q6, q7⟩
      have HF := Lib.hid (show Settled r (c :: u) (τ + 1) root base R g w w3 from ⟨bv', ev2, sv', g', Sl', PS', q1, q2, HB2.out.trans q3, q4, q5, q6, q7⟩)
      clear q1 q2 q3 q4 q5 q6 q7
      go_wp2
      go_end0
      exact ⟨rfl, HF.out⟩
end Go.Proofs.Ytejdfpieblkapaa
