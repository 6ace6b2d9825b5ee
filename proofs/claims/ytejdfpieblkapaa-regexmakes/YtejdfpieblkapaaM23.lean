/- What a reader reads: letters. -/
import Derived.Test.YtejdfpieblkapaaM22
namespace Go.Proofs.Ytejdfpieblkapaa
open Go.RowKit Go.Shelf

def inS (sp : ByteArray) (c : Nat) : Bool := decide (0 ≤ Lib.indexByte sp.data.toList c.toUInt8)
/-- What stands behind a backslash. -/
def escF (sp : ByteArray) (L : List UInt8) (i : Nat) : Option (Nat × Nat) :=
  if nx L i = 120 then hexF L (i + 1) else if nx L i = 110 then some (10, i + 1) else if nx L i = 116 then some (9, i + 1) else if nx L i = 115 then some (32, i + 1) else if inS sp (nx L i) = true then some (nx L i, i + 1) else none
/-- A letter. -/
def letF (sp : ByteArray) (L : List UInt8) (i : Nat) : Option (Nat × Nat) :=
  if nx L i = 92 then escF sp L (i + 1) else if nx L i ≤ 32 ∨ 126 < nx L i ∨ inS sp (nx L i) = true then none else some (nx L i, i + 1)

theorem RdTo.wider {P : Nat} {s : ByteArray} {ov : Value} {d : Int} {l : Bool} {r : Option (Nat × Nat)} {w w1 : World} {e : Ending} {w' : World} (h : RdTo P s ov d l r w1 e w') (hk : Kb (fun j => j = P) w w1) : RdTo P s ov d l r w e w' :=
  ⟨hk.trans h.1 (fun _ _ h => h), h.2⟩
theorem inS_in {sp s : ByteArray} {i : Nat} (h : inS sp (nx s.data.toList i) = true) (h0 : inS sp 0 = false) : i < s.size := by
  rcases Nat.lt_or_ge i s.size with h' | h'
  · exact h'
  · unfold nx at h
    rw [List.getElem?_eq_none (by rw [← Lib.size_eq]; exact h')] at h
    have h2 : inS sp 0 = true := h
    rw [h0] at h2; cases h2

set_option maxRecDepth 100000 in
set_option maxHeartbeats 2000000 in
theorem escaped_any (w : World) (P : Nat) (sp s : ByteArray) (i : Nat) (ov : Value) (d : Int) (l : Bool) (h : PsB w P s i ov d l) (hi : i ≤ s.size) (hs : s.size ≤ 1000000) (hsp : inS sp 0 = false) :
    Calls Try.prog 71 #[ptr P, .string sp] w (RdTo P s ov d l (escF sp s.data.toList i) w) := by
  have HN := Lib.hid (next_any w P s i ov d l h hi hs)
  have hcases : ∀ x, nx s.data.toList i = x → 0 < x → i < s.size := fun x hx h0 => nx_in hx h0
  have hins := fun h => inS_in (sp := sp) (s := s) (i := i) h hsp
  have hesc : escF sp s.data.toList i = if nx s.data.toList i = 120 then hexF s.data.toList (i + 1) else if nx s.data.toList i = 110 then some (10, i + 1) else if nx s.data.toList i = 116 then some (9, i + 1) else if nx s.data.toList i = 115 then some (32, i + 1) else if inS sp (nx s.data.toList i) = true then some (nx s.data.toList i, i + 1) else none := rfl
  rw [hesc]
  generalize nx s.data.toList i = x at HN hcases hins
  have HC := Lib.hid hcases
  have HIB := Lib.hid (fun w' => indexByte_any sp x w')
  have HI := Lib.hid hins
  clear h hcases hins hesc
  obtain ⟨m3, hm3⟩ : ∃ m3 : Int, m3 = ((i + 1 : Nat) : Int) := ⟨_, rfl⟩
  have e3 : IntKind.i64.wrap ((i : Int) + 1) = m3 := by rw [hm3, IntWalk.i64_in _ (by omega)]; omega
  have HM3 := Lib.hid hm3
  clear hm3
  by_cases h1 : x = 120
  · subst h1
    rw [if_pos rfl]
    have hlt := HC.out 120 rfl (by omega)
    go_enter Try.func71, Try.ntmps71
    go_wp2_with fail
    refine HN.out.mono ?_
    rintro e w1 ⟨rfl, h1, h2⟩
    have c1 : w1.cell? ⟨P, 1, none⟩ = some (.int .i64 i) := by unfold PsB at h1; rw [Lib.cell_of_heap h1]; rfl
    have f1 : w1.frozen? ⟨P, 1, none⟩ = false := Lib.frozen_of_heap h1 1
    have hx := hex_any (w1.setCell ⟨P, 1, none⟩ (.int .i64 m3)) P s (i + 1) ov d l (by rw [HM3.out]; exact h1.step (i + 1)) (by omega) hs
    have HX1 := Lib.hid hx
    have HK := Lib.hid ((Kb.of_below (fun j => j = P) h2).trans (Kb.setCell w1 ⟨P, 1, none⟩ (.int .i64 m3)) (fun _ _ h => h))
    clear h1 h2 hx
    go_wp2_with fail
    refine HX1.out.mono ?_
    rintro e w2 ⟨q1, q2⟩
    have HQ := Lib.hid q1
    clear q1
    rcases q2 with ⟨b, j, hr, rfl, hp⟩ | ⟨hr, rfl, j, hj, hp⟩
    · have HR := Lib.hid (And.intro hr hp)
      clear hr hp
      go_wp2_with fail
      refine bodyPost_ret (results_tmp2 rfl _ _ _) rfl ?_
      exact ⟨HK.out.trans HQ.out (fun _ _ h => h), .inl ⟨b, j, HR.out.1, rfl, HR.out.2⟩⟩
    · have HR := Lib.hid (And.intro hr hp)
      clear hr hp
      go_wp2_with fail
      refine bodyPost_ret (results_tmp2 rfl _ _ _) rfl ?_
      exact ⟨HK.out.trans HQ.out (fun _ _ h => h), .inr ⟨HR.out.1, rfl, j, hj, HR.out.2⟩⟩
  · rw [if_neg h1]
    have h1i : ((x : Nat) : Int) ≠ 120 := by omega
    by_cases h2 : x = 110
    · subst h2
      rw [if_pos rfl]
      have hlt := HC.out 110 rfl (by omega)
      clear h1i
      go_enter Try.func71, Try.ntmps71
      go_wp2_with fail
      refine HN.out.mono ?_
      rintro e w1 ⟨rfl, h1, h2⟩
      have c1 : w1.cell? ⟨P, 1, none⟩ = some (.int .i64 i) := by unfold PsB at h1; rw [Lib.cell_of_heap h1]; rfl
      have f1 : w1.frozen? ⟨P, 1, none⟩ = false := Lib.frozen_of_heap h1 1
      have HF := Lib.hid (And.intro h1 h2)
      clear h1 h2
      go_wp2_with fail
      refine bodyPost_ret (results_tmp2 rfl _ _ _) rfl ?_
      exact ⟨(Kb.of_below _ HF.out.2).trans (Kb.setCell w1 ⟨P, 1, none⟩ _) (fun _ _ h => h), .inl ⟨10, i + 1, rfl, rfl, by rw [HM3.out]; exact HF.out.1.step (i + 1)⟩⟩
    · rw [if_neg h2]
      have h2i : ((x : Nat) : Int) ≠ 110 := by omega
      by_cases h3 : x = 116
      · subst h3
        rw [if_pos rfl]
        have hlt := HC.out 116 rfl (by omega)
        clear h1i h2i
        go_enter Try.func71, Try.ntmps71
        go_wp2_with fail
        refine HN.out.mono ?_
        rintro e w1 ⟨rfl, h1, h2⟩
        have c1 : w1.cell? ⟨P, 1, none⟩ = some (.int .i64 i) := by unfold PsB at h1; rw [Lib.cell_of_heap h1]; rfl
        have f1 : w1.frozen? ⟨P, 1, none⟩ = false := Lib.frozen_of_heap h1 1
        have HF := Lib.hid (And.intro h1 h2)
        clear h1 h2
        go_wp2_with fail
        refine bodyPost_ret (results_tmp2 rfl _ _ _) rfl ?_
        exact ⟨(Kb.of_below _ HF.out.2).trans (Kb.setCell w1 ⟨P, 1, none⟩ _) (fun _ _ h => h), .inl ⟨9, i + 1, rfl, rfl, by rw [HM3.out]; exact HF.out.1.step (i + 1)⟩⟩
      · rw [if_neg h3]
        have h3i : ((x : Nat) : Int) ≠ 116 := by omega
        by_cases h4 : x = 115
        · subst h4
          rw [if_pos rfl]
          have hlt := HC.out 115 rfl (by omega)
          clear h1i h2i h3i
          go_enter Try.func71, Try.ntmps71
          go_wp2_with fail
          refine HN.out.mono ?_
          rintro e w1 ⟨rfl, h1, h2⟩
          have c1 : w1.cell? ⟨P, 1, none⟩ = some (.int .i64 i) := by unfold PsB at h1; rw [Lib.cell_of_heap h1]; rfl
          have f1 : w1.frozen? ⟨P, 1, none⟩ = false := Lib.frozen_of_heap h1 1
          have HF := Lib.hid (And.intro h1 h2)
          clear h1 h2
          go_wp2_with fail
          refine bodyPost_ret (results_tmp2 rfl _ _ _) rfl ?_
          exact ⟨(Kb.of_below _ HF.out.2).trans (Kb.setCell w1 ⟨P, 1, none⟩ _) (fun _ _ h => h), .inl ⟨32, i + 1, rfl, rfl, by rw [HM3.out]; exact HF.out.1.step (i + 1)⟩⟩
        · rw [if_neg h4]
          have h4i : ((x : Nat) : Int) ≠ 115 := by omega
          obtain ⟨dg, hdg⟩ : ∃ dg, dg = Lib.indexByte sp.data.toList x.toUInt8 := ⟨_, rfl⟩
          have hin : inS sp x = decide (0 ≤ dg) := by unfold inS; rw [hdg]
          have HIB2 := Lib.hid (show ∀ w', Calls Try.prog 41 #[.string sp, .int .u8 x] w' fun e w'_1 => e = .returned (.int .i64 dg) ∧ w'_1 = w' by rw [hdg]; exact HIB.out)
          rw [hin]
          have HIN := Lib.hid hin
          clear h1 h2 h3 h4 hdg HIB hin
          by_cases h5 : 0 ≤ dg
          · rw [if_pos (decide_eq_true h5)]
            have hlt := HI.out (by rw [HIN.out]; exact decide_eq_true h5)
            go_enter Try.func71, Try.ntmps71
            go_wp2_with fail
            refine HN.out.mono ?_
            rintro e w1 ⟨rfl, h1, h2⟩
            have c1 : w1.cell? ⟨P, 1, none⟩ = some (.int .i64 i) := by unfold PsB at h1; rw [Lib.cell_of_heap h1]; rfl
            have f1 : w1.frozen? ⟨P, 1, none⟩ = false := Lib.frozen_of_heap h1 1
            have HF := Lib.hid (And.intro h1 h2)
            clear h1 h2
            go_wp2_with fail
            refine (HIB2.out w1).mono ?_
            rintro e w2 ⟨rfl, rfl⟩
            go_wp2_with fail
            refine bodyPost_ret (results_tmp2 rfl _ _ _) rfl ?_
            exact ⟨(Kb.of_below _ HF.out.2).trans (Kb.setCell w2 ⟨P, 1, none⟩ _) (fun _ _ h => h), .inl ⟨x, i + 1, rfl, rfl, by rw [HM3.out]; exact HF.out.1.step (i + 1)⟩⟩
          · rw [if_neg (by rw [decide_eq_false h5]; simp)]
            go_enter Try.func71, Try.ntmps71
            go_wp2_with fail
            refine HN.out.mono ?_
            rintro e w1 ⟨rfl, h1, h2⟩
            have HF := Lib.hid (And.intro h1 h2)
            clear h1 h2
            go_wp2_with fail
            refine (HIB2.out w1).mono ?_
            rintro e w2 ⟨rfl, rfl⟩
            go_wp2_with fail
            refine bodyPost_ret (results_tmp2 rfl _ _ _) rfl ?_
            exact ⟨Kb.of_below _ HF.out.2, .inr ⟨rfl, rfl, i, hi, HF.out.1⟩⟩
end Go.Proofs.Ytejdfpieblkapaa
