/- What letter reads. -/
import Derived.Test.YtejdfpieblkapaaM23
namespace Go.Proofs.Ytejdfpieblkapaa
open Go.RowKit Go.Shelf

set_option maxRecDepth 100000 in
set_option maxHeartbeats 2000000 in
theorem letter_any (w : World) (P : Nat) (sp s : ByteArray) (i : Nat) (ov : Value) (d : Int) (l : Bool) (h : PsB w P s i ov d l) (hi : i ≤ s.size) (hs : s.size ≤ 1000000) (hsp : inS sp 0 = false) :
    Calls Try.prog 60 #[ptr P, .string sp] w (RdTo P s ov d l (letF sp s.data.toList i) w) := by
  by_cases h92 : nx s.data.toList i = 92
  · have HT := Lib.hid (take_yes w P 92 s i ov d l h hi hs h92 (by omega))
    have hlt := nx_in h92 (by omega)
    have hlet : letF sp s.data.toList i = escF sp s.data.toList (i + 1) := by unfold letF; rw [if_pos h92]
    rw [hlet]
    clear h h92 hlet
    go_enter Try.func60, Try.ntmps60
    go_wp2_with fail
    refine HT.out.mono ?_
    rintro e w1 ⟨rfl, h1, h2⟩
    have HE := Lib.hid (escaped_any w1 P sp s (i + 1) ov d l h1 (by omega) hs hsp)
    have HK := Lib.hid h2
    clear h1 h2
    go_wp2_with fail
    refine HE.out.mono ?_
    rintro e w2 ⟨q1, q2⟩
    have HQ := Lib.hid q1
    clear q1
    rcases q2 with ⟨b, j, hr, rfl, hp⟩ | ⟨hr, rfl, j, hj, hp⟩
    · have HR := Lib.hid (And.intro hr hp)
      clear hr hp
      go_wp2_with fail
      refine bodyPost_ret (results_tmp2 rfl _ _ _) rfl ?_
      exact ⟨HK.out.trans HQ.out (fun _ _ h => h), .inl ⟨b, j, HR.out.1, rfl, HR.out.2⟩⟩
    · have HR := Lib.hid (And.intro hr hp)
      clear hr hp
      go_wp2_with fail
      refine bodyPost_ret (results_tmp2 rfl _ _ _) rfl ?_
      exact ⟨HK.out.trans HQ.out (fun _ _ h => h), .inr ⟨HR.out.1, rfl, j, hj, HR.out.2⟩⟩
  · have HT := Lib.hid (take_no w P 92 s i ov d l h hi hs h92)
    have hlet : letF sp s.data.toList i = if nx s.data.toList i ≤ 32 ∨ 126 < nx s.data.toList i ∨ inS sp (nx s.data.toList i) = true then none else some (nx s.data.toList i, i + 1) := by unfold letF; rw [if_neg h92]
    rw [hlet]
    have HC := Lib.hid (fun (h : 0 < nx s.data.toList i) => nx_in (s := s) (i := i) rfl h)
    have HNX := Lib.hid (fun w1 (h1 : PsB w1 P s i ov d l) => next_any w1 P s i ov d l h1 hi hs)
    generalize nx s.data.toList i = x at HC HNX
    clear h h92 hlet
    obtain ⟨dg, hdg⟩ : ∃ dg, dg = Lib.indexByte sp.data.toList x.toUInt8 := ⟨_, rfl⟩
    have hin : inS sp x = decide (0 ≤ dg) := by unfold inS; rw [hdg]
    have HIB2 := Lib.hid (show ∀ w', Calls Try.prog 41 #[.string sp, .int .u8 x] w' fun e w'_1 => e = .returned (.int .i64 dg) ∧ w'_1 = w' by rw [hdg]; exact fun w' => indexByte_any sp x w')
    rw [hin]
    clear hdg hin
    obtain ⟨m3, hm3⟩ : ∃ m3 : Int, m3 = ((i + 1 : Nat) : Int) := ⟨_, rfl⟩
    have e3 : IntKind.i64.wrap ((i : Int) + 1) = m3 := by rw [hm3, IntWalk.i64_in _ (by omega)]; omega
    have HM3 := Lib.hid hm3
    clear hm3
    by_cases h1 : x ≤ 32
    · rw [if_pos (.inl h1)]
      have h1i : (x : Int) ≤ 32 := by omega
      go_enter Try.func60, Try.ntmps60
      go_wp2_with fail
      refine HT.out.mono ?_
      rintro e w1 ⟨rfl, h1, h2⟩
      have HN := Lib.hid (HNX.out w1 h1); have HB := Lib.hid h2
      clear h1 h2
      go_wp2_with fail
      refine HN.out.mono ?_
      rintro e w2 ⟨rfl, h1, h2⟩
      have HF := Lib.hid (And.intro h1 (below_tr HB.out h2 HB.out.size))
      clear h1 h2
      go_wp2_with fail
      refine bodyPost_ret (results_tmp2 rfl _ _ _) rfl ?_
      exact ⟨Kb.of_below _ HF.out.2, .inr ⟨rfl, rfl, i, hi, HF.out.1⟩⟩
    · have h1i : ¬ (x : Int) ≤ 32 := by omega
      by_cases h2 : 126 < x
      · rw [if_pos (.inr (.inl h2))]
        have h2i : (126 : Int) < x := by omega
        go_enter Try.func60, Try.ntmps60
        go_wp2_with fail
        refine HT.out.mono ?_
        rintro e w1 ⟨rfl, h1, h2⟩
        have HN := Lib.hid (HNX.out w1 h1); have HB := Lib.hid h2
        clear h1 h2
        go_wp2_with fail
        refine HN.out.mono ?_
        rintro e w2 ⟨rfl, h1, h2⟩
        have HF := Lib.hid (And.intro h1 (below_tr HB.out h2 HB.out.size))
        clear h1 h2
        go_wp2_with fail
        refine bodyPost_ret (results_tmp2 rfl _ _ _) rfl ?_
        exact ⟨Kb.of_below _ HF.out.2, .inr ⟨rfl, rfl, i, hi, HF.out.1⟩⟩
      · have h2i : ¬ (126 : Int) < x := by omega
        by_cases h3 : 0 ≤ dg
        · rw [if_pos (.inr (.inr (decide_eq_true h3)))]
          go_enter Try.func60, Try.ntmps60
          go_wp2_with fail
          refine HT.out.mono ?_
          rintro e w1 ⟨rfl, h1, h2⟩
          have HN := Lib.hid (HNX.out w1 h1); have HB := Lib.hid h2
          clear h1 h2
          go_wp2_with fail
          refine HN.out.mono ?_
          rintro e w2 ⟨rfl, h1, h2⟩
          have HF := Lib.hid (And.intro h1 (below_tr HB.out h2 HB.out.size))
          clear h1 h2
          go_wp2_with fail
          refine (HIB2.out w2).mono ?_
          rintro e w3 ⟨rfl, rfl⟩
          go_wp2_with fail
          refine bodyPost_ret (results_tmp2 rfl _ _ _) rfl ?_
          exact ⟨Kb.of_below _ HF.out.2, .inr ⟨rfl, rfl, i, hi, HF.out.1⟩⟩
        · rw [if_neg (show ¬ (x ≤ 32 ∨ 126 < x ∨ decide (0 ≤ dg) = true) from fun h => h.elim h1 (fun h => h.elim h2 (fun h => h3 (of_decide_eq_true h))))]
          have hlt := HC.out (by omega)
          go_enter Try.func60, Try.ntmps60
          go_wp2_with fail
          refine HT.out.mono ?_
          rintro e w1 ⟨rfl, h1, h2⟩
          have HN := Lib.hid (HNX.out w1 h1); have HB := Lib.hid h2
          clear h1 h2
          go_wp2_with fail
          refine HN.out.mono ?_
          rintro e w2 ⟨rfl, h1, h2⟩
          have c1 : w2.cell? ⟨P, 1, none⟩ = some (.int .i64 i) := by unfold PsB at h1; rw [Lib.cell_of_heap h1]; rfl
          have f1 : w2.frozen? ⟨P, 1, none⟩ = false := Lib.frozen_of_heap h1 1
          have HF := Lib.hid (And.intro h1 (below_tr HB.out h2 HB.out.size))
          clear h1 h2
          go_wp2_with fail
          refine (HIB2.out w2).mono ?_
          rintro e w3 ⟨rfl, rfl⟩
          go_wp2_with fail
          refine bodyPost_ret (results_tmp2 rfl _ _ _) rfl ?_
          exact ⟨(Kb.of_below _ HF.out.2).trans (Kb.setCell w3 ⟨P, 1, none⟩ _) (fun _ _ h => h), .inl ⟨x, i + 1, rfl, rfl, by rw [HM3.out]; exact HF.out.1.step (i + 1)⟩⟩
end Go.Proofs.Ytejdfpieblkapaa
