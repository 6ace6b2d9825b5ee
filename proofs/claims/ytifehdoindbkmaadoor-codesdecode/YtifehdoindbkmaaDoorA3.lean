/- What codes.Step answers: the walk. -/
import Derived.Test.YtifehdoindbkmaaDoorA2
import Derived.Deep.RegionWith
namespace Go.Proofs.YtifehdoindbkmaaDoor
open Go.RowKit

theorem joined_z (z : Int) (n : Nat) (rest : ByteArray) (k : Nat) (w : World) (hz : z = n) (hk : k ≤ 3) (hn : k = 0 ∨ n ≤ 31) (hs : rest.size ≤ 1099511627776) :
    Calls Tryd.prog 43 #[.int .i64 z, .string rest, .int .i64 k] w fun e w' => e = .returned (.int .i64 (jnI n rest.data.toList k)) ∧ Below w.heap.size w w' := by
  subst hz; exact joined_any n rest k w hk hn hs

theorem tab_bd {lo hi mk top : Int} {k : Nat} (h : (lo, hi, mk, top, k) ∈ tab) : 0 ≤ mk ∧ mk ≤ 240 ∧ k ≤ 3 ∧ (k = 0 ∨ top - mk ≤ 31) ∧ top ≤ 255 := by
  unfold tab at h
  simp only [List.mem_cons, Prod.mk.injEq, List.not_mem_nil, or_false] at h
  omega

set_option maxRecDepth 100000 in
set_option maxHeartbeats 1000000 in
theorem step_out (s : ByteArray) (p : Int) (w : World) (h : p < 0 ∨ (s.size : Int) ≤ p) :
    Calls Tryd.prog 24 #[.string s, .int .i64 p] w fun e w' => e = .returned (.tuple #[.int .i64 0, .int .i64 0, .bool false]) ∧ w = w' := by
  by_cases h0 : p < 0
  · clear h
    go_enter Tryd.func24, Tryd.ntmps24
    go_wp2
    go_ret3
    exact ⟨rfl, rfl⟩
  · have h1 := h.resolve_left h0
    clear h
    go_enter Tryd.func24, Tryd.ntmps24
    go_wp2
    go_ret3
    exact ⟨rfl, rfl⟩

def stpV (l : List UInt8) : Value := match stp l with | some (n, k) => .tuple #[.int .i64 n, .int .i64 k, .bool true] | none => .tuple #[.int .i64 0, .int .i64 0, .bool false]

theorem tab_lo {lo hi mk top : Int} {k : Nat} (h : (lo, hi, mk, top, k) ∈ tab) : 0 ≤ lo := by
  unfold tab at h
  simp only [List.mem_cons, Prod.mk.injEq, List.not_mem_nil, or_false] at h
  omega

theorem tab_one {lo hi mk top lo' hi' mk' top' : Int} {k : Nat} (h : (lo, hi, mk, top, k) ∈ tab) (h' : (lo', hi', mk', top', k) ∈ tab) : mk = mk' ∧ top = top' := by
  unfold tab at h h'
  simp only [List.mem_cons, Prod.mk.injEq, List.not_mem_nil, or_false] at h h'
  omega

theorem NoLead.succ {lo hi mk top : Int} {j a : Nat} (h : NoLead j a) (hm : (lo, hi, mk, top, j) ∈ tab) (hl : leadsB mk top a = false) : NoLead (j + 1) a := by
  intro lo' hi' mk' top' k hk hm'
  by_cases e : k = j
  · subst e
    obtain ⟨rfl, rfl⟩ := tab_one hm hm'
    exact hl
  · exact h lo' hi' mk' top' k (by omega) hm'

theorem after_call {w1 w2 : World} {b : Nat} {x y z : Value} (h : Below w1.drew.heap.size w1.drew w2) (hb : b < w1.heap.size) (c0 : w1.cell? ⟨b, 0, none⟩ = some x) (c1 : w1.cell? ⟨b, 1, none⟩ = some y) (c2 : w1.cell? ⟨b, 2, none⟩ = some z) :
    w2.cell? ⟨b, 0, none⟩ = some x ∧ w2.cell? ⟨b, 1, none⟩ = some y ∧ w2.cell? ⟨b, 2, none⟩ = some z ∧ Below w1.heap.size w1 w2 := by
  have h' : Below w1.heap.size w1 w2 := ((Below.refl w1.heap.size w1).drew).trans h
  exact ⟨(h'.cell (p := ⟨b, 0, none⟩) hb).trans c0, (h'.cell (p := ⟨b, 1, none⟩) hb).trans c1, (h'.cell (p := ⟨b, 2, none⟩) hb).trans c2, h'⟩

set_option maxRecDepth 100000 in
set_option maxHeartbeats 2000000 in
theorem step_in (s : ByteArray) (p : Nat) (w : World) (hp : p < s.size) (hs : s.size ≤ 1099511627776) (hT : LenT w) :
    Calls Tryd.prog 24 #[.string s, .int .i64 p] w fun e w' => e = .returned (stpV (s.data.toList.drop p)) ∧ Below w.heap.size w w' := by
  obtain ⟨a, r, hL⟩ : ∃ a r, s.data.toList.drop p = a :: r := by
    have hl : p < s.data.toList.length := by rw [← Lib.size_eq]; exact hp
    exact ⟨_, _, List.drop_eq_getElem_cons hl⟩
  have ha : s[p] = a := by
    have hl : p < s.data.toList.length := by rw [← Lib.size_eq]; exact hp
    have h1 := List.drop_eq_getElem_cons hl
    rw [hL] at h1
    injection h1 with h2 _
    rw [h2]; simp; rfl
  have hr : (s.extract (p + 1) s.size).data.toList = r := by
    have h1 : s.data.toList.drop (p + 1) = r := by
      rw [← List.drop_drop, hL]; rfl
    rw [Lib.extract_data, h1, List.take_of_length_le]
    rw [← h1, List.length_drop, ← Lib.size_eq]; omega
  rw [hL]
  have H0 := hT.1
  obtain ⟨tt, fr, hg⟩ := hT.2
  have HR := Lib.hid hr; clear hr
  clear hL
  have hab : (a.toNat : Int) < 256 := by have := a.toNat_lt; omega
  obtain ⟨lc, hlc⟩ : ∃ lc, lc = lenC := ⟨_, rfl⟩
  have hsz : (Tryd.prog.info? 77).map (·.size) = some lc.size := by rw [hlc]; kernel_rfl
  rw [← hlc] at hg
  have HLC := Lib.hid hlc; clear hlc
  go_enter Tryd.func24, Tryd.ntmps24
  go_wp2_with (refine wpList_load_row rfl 77 _ rfl 0 rfl tt _ fr _ hg Tryd.underlying77 rfl hsz ?_)
  clear hg hsz
  go_loopw [24] (fun i wr => ∃ j : Nat, j ≤ 4 ∧ i = .int .i64 j ∧ Hid (NoLead j a.toNat) ∧ Below w.heap.size w wr) (fun i _ => 4 - (intOf i).toNat)
  case atStart => exact ⟨0, by omega, rfl, fun _ _ _ _ _ h => absurd h (Nat.not_lt_zero _), Below.refl _ _⟩
  case round =>
    obtain ⟨j, hj, rfl, HN, hb⟩ := hrel
    by_cases hlt : j < 4
    · obtain ⟨lo, hi, mk, top, hm, hidx⟩ := tab_row j hlt
      rw [← HLC.out] at hidx
      have HM := Lib.hid hm
      obtain ⟨b1, b2, b3, b4, b5⟩ := tab_bd hm
      clear hm
      have hz := hb.size
      go_wp2_with fail
      refine (leads_any lo hi mk _ top j _ HM.out).mono ?_
      rintro e w1 ⟨rfl, hb1⟩
      have c0 : w1.cell? ⟨wr.heap.size, 0, none⟩ = some (.int .i64 lo) := (hb1.cell (p := ⟨wr.heap.size, 0, none⟩) (by simp)).trans (by simp [go_sem])
      have c1 : w1.cell? ⟨wr.heap.size, 1, none⟩ = some (.int .i64 hi) := (hb1.cell (p := ⟨wr.heap.size, 1, none⟩) (by simp)).trans (by simp [go_sem])
      have c2 : w1.cell? ⟨wr.heap.size, 2, none⟩ = some (.int .i64 mk) := (hb1.cell (p := ⟨wr.heap.size, 2, none⟩) (by simp)).trans (by simp [go_sem])
      have hb2 : Below w.heap.size w w1 := (hb.alloc hz _).trans (hb1.mono (by simp; omega))
      have HB2 := Lib.hid hb2
      have hz1 : wr.heap.size < w1.heap.size := by have := hb1.size; simp at this; omega
      clear hb1 hidx hb2
      cases hlead : leadsB mk top a.toNat with
      | false =>
        have HLd := Lib.hid hlead; clear hlead
        go_wp2
        go_roundw
        case rel =>
          exact ⟨j + 1, by omega, by go_num, HN.out.succ HM.out HLd.out, HB2.out⟩
        case measure => simp [intOf]; omega
      | true =>
        have HLd := Lib.hid hlead; clear hlead
        go_wp2
        obtain ⟨q1, q2⟩ : mk ≤ (a.toNat : Int) ∧ (a.toNat : Int) ≤ top := by have := HLd.out; unfold leadsB at this; simpa using this
        have hxs : (s.extract (p + 1) s.size).size ≤ 1099511627776 := by
          rw [Lib.size_eq, Lib.extract_data, List.length_take]; omega
        obtain ⟨N, hN⟩ : ∃ N, N = jnI (a.toNat - mk.toNat) r j := ⟨_, rfl⟩
        have HJ : Hid (∀ W, Calls Tryd.prog 43 #[.int .i64 ((a.toNat : Int) - mk), .string (s.extract (p + 1) s.size), .int .i64 j] W fun e w' => e = .returned (.int .i64 N) ∧ Below W.heap.size W w') := fun W => by
          have := joined_z ((a.toNat : Int) - mk) (a.toNat - mk.toNat) (s.extract (p + 1) s.size) j W (by omega) b3 (by omega) hxs
          rw [HR.out, ← hN] at this
          exact this
        have HNN := Lib.hid hN
        clear hN hxs
        have wp1 : IntKind.i64.wrap ((p : Int) + 1) = (p : Int) + 1 := IntWalk.i64_in _ (by omega)
        have wp2 : IntKind.i64.wrap ((a.toNat : Int) - mk) = (a.toNat : Int) - mk := IntWalk.i64_in _ (by omega)
        have hj := HJ.out
        go_region_with (go_at_call 43; (with_reducible refine (hj w1.drew).mono ?_); rintro e w2 ⟨rfl, hb3⟩; obtain ⟨d0, d1, d2, hb4⟩ := after_call hb3 hz1 c0 c1 c2)
        all_goals
          clear wp1 wp2 hj
          have HB4 := Lib.hid (HB2.out.trans (hb4.mono (by have := HB2.out.size; omega)))
          clear hb3 hb4 c0 c1 c2
          go_wp2_with fail
          refine (isCode_any lo hi mk N _).mono ?_
          rintro e w3 ⟨rfl, hb5⟩
          have HB5 := Lib.hid (HB4.out.trans (hb5.mono (by have := HB4.out.size; omega)))
          clear hb5 HB4 d0 d1 d2
          have hst := stp_lead (r := r) HM.out HLd.out
          rw [← HNN.out] at hst
          cases hco : isCodeB lo hi N with
          | true =>
            rw [hco] at hst
            have h0N : 0 ≤ N := by
              have h1 := tab_lo HM.out
              unfold isCodeB at hco
              simp at hco
              omega
            have HV := Lib.hid (show stpV (a :: r) = .tuple #[.int .i64 N, .int .i64 (1 + j), .bool true] by
              unfold stpV; rw [hst, if_pos rfl]; simp; omega)
            clear hst hco
            go_wp2
            go_ret3
            exact ⟨by rw [HV.out]; rfl, HB5.out⟩
          | false =>
            rw [hco] at hst
            have HV := Lib.hid (show stpV (a :: r) = .tuple #[.int .i64 0, .int .i64 0, .bool false] by
              unfold stpV; rw [hst, if_neg (by simp)])
            clear hst hco
            go_wp2
            go_ret3
            exact ⟨by rw [HV.out]; rfl, HB5.out⟩
    · have h4 : j = 4 := by omega
      have hn : stpV (a :: r) = .tuple #[.int .i64 0, .int .i64 0, .bool false] := by
        unfold stpV; rw [stp_nolead (h4 ▸ HN.out)]
      have HQ := Lib.hid hn
      clear hn h4
      go_wp2
      go_ret3
      exact ⟨by rw [HQ.out]; rfl, hb⟩
end Go.Proofs.YtifehdoindbkmaaDoor
