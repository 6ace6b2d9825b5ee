/- The parser's calls: alternative, end, repeat. -/
import Derived.Test.YtejdfpieblkapaaM36
namespace Go.Proofs.Ytejdfpieblkapaa
open Go.RowKit Go.Shelf

/-- The parser's state: groups, or that it is too long. -/
def PS (w0 w : World) (P : Nat) (s : ByteArray) (i : Nat) (d : Int) : Option (List Grp × Grp) → Prop
  | some (lo, g) => ∃ G cap, PI w0 w P G cap s i d (lo ++ [g])
  | none => PsB w P s i (.slice none 0 0) d true ∧ w0.heap.size ≤ P ∧ Below w0.heap.size w0 w

set_option maxHeartbeats 1000000 in
theorem alt_some (w0 w : World) (P G cap : Nat) (s : ByteArray) (i : Nat) (d : Int) (lo : List Grp) (g : Grp) (H : PI w0 w P G cap s i d (lo ++ [g])) (hok : g.Ok) (hlo : lo.length ≤ 100) :
    Calls Try.prog 38 #[ptr P] w fun e w' => e = .returned (.tuple #[]) ∧ PI w0 w' P G cap s i d (lo ++ [g.nextWay]) := by
  obtain ⟨_, _, _, _, c4, _⟩ := ps_cells H.ps
  have HL := Lib.hid (last_ps w P G (lo ++ [g]).length lo.length cap s i d H.ps (by simp) (by omega))
  have HN := Lib.hid (fun w' h => nextWay_any w0 w' P G cap s i d lo g h hok)
  have HH := Lib.hid H
  clear H
  generalize lo.length * 2 = k2 at HL HN
  go_enter Try.func38, Try.ntmps38
  go_wp2_with fail
  refine HL.out.mono ?_
  rintro e w1 ⟨rfl, hb1⟩
  have HN1 := Lib.hid (HN.out w1 (HH.out.below hb1))
  clear hb1
  go_wp2_with fail
  refine HN1.out.mono ?_
  rintro e w2 ⟨rfl, h2⟩
  have HF := Lib.hid h2
  clear h2
  go_wp2
  go_end0
  exact ⟨rfl, HF.out⟩
set_option maxHeartbeats 1000000 in
theorem alt_none (w : World) (P : Nat) (s : ByteArray) (i : Nat) (ov : Value) (d : Int) (H : PsB w P s i ov d true) :
    Calls Try.prog 38 #[ptr P] w fun e w' => e = .returned (.tuple #[]) ∧ w' = w := by
  obtain ⟨_, _, _, _, c4, _⟩ := ps_cells H
  clear H
  go_enter Try.func38, Try.ntmps38
  go_wp2
  go_end0
  exact ⟨rfl, rfl⟩

theorem deep_ps {w : World} {P : Nat} {s : ByteArray} {i : Nat} {ov : Value} {d : Int} {l : Bool} (h : PsB w P s i ov d l) (d1 : Int) : PsB (w.setCell ⟨P, 3, none⟩ (.int .i64 d1)) P s i ov d1 l := by
  unfold PsB at h ⊢
  rw [set_heap w P 3 _ _ _ _ h]; rfl
theorem PI.deep {w0 w : World} {P G cap : Nat} {s : ByteArray} {i : Nat} {d : Int} {gs : List Grp} (H : PI w0 w P G cap s i d gs) (d1 : Int) : PI w0 (w.setCell ⟨P, 3, none⟩ (.int .i64 d1)) P G cap s i d1 gs := H.psk (Kb.setCell w ⟨P, 3, none⟩ _) (deep_ps H.ps d1)

set_option maxRecDepth 100000 in
set_option maxHeartbeats 2000000 in
theorem end_some (w0 w : World) (P G cap : Nat) (s : ByteArray) (i d : Nat) (lo : List Grp) (b g : Grp) (H : PI w0 w P G cap s i ((d + 1 : Nat) : Int) (lo ++ [b] ++ [g])) (hok : g.Ok) (hlo : lo.length ≤ 100) (hd : d ≤ 1000000) (hrow : b.row.length ≤ 1000) :
    Calls Try.prog 40 #[ptr P] w fun e w' => e = .returned (.tuple #[]) ∧ PI w0 w' P G cap s i d (lo ++ [b.put g.whole]) := by
  obtain ⟨_, _, _, c3, c4, cf⟩ := ps_cells H.ps
  have f3 := cf 3
  obtain ⟨dd, hdd⟩ : ∃ dd : Int, dd = ((d + 1 : Nat) : Int) := ⟨_, rfl⟩
  have p1 : IntKind.i64.wrap (dd - 1) = (d : Int) := by rw [hdd, IntWalk.i64_in _ (by omega)]; omega
  rw [← hdd] at c3
  have H1 := H.deep (d : Int)
  have HL := Lib.hid (last_ps _ P G (lo ++ [b] ++ [g]).length (lo ++ [b]).length cap s i d H1.ps (by simp) (by simp; omega))
  have HN := Lib.hid (fun w' h => whole_any w0 w' P G cap s i d (lo ++ [b]) g h hok)
  have HH := Lib.hid H1
  clear H H1 hdd cf
  generalize (lo ++ [b]).length * 2 = k2 at HL HN
  go_enter Try.func40, Try.ntmps40
  go_wp2_with fail
  refine HL.out.mono ?_
  rintro e w1 ⟨rfl, hb1⟩
  have HN1 := Lib.hid (HN.out w1 (HH.out.below hb1))
  clear hb1
  go_wp2_with fail
  refine HN1.out.mono ?_
  rintro e w2 ⟨nb, rfl, ρ, vs, X1, X2, X3⟩
  obtain ⟨_, _, q2, _, _, qf⟩ := ps_cells X1.ps
  have f2 := qf 2
  obtain ⟨n, hn⟩ : ∃ n, n = (lo ++ [b] ++ [g.nextWay]).length := ⟨_, rfl⟩
  obtain ⟨n1, hn1⟩ : ∃ n1, n1 = (lo ++ [b]).length := ⟨_, rfl⟩
  rw [← hn] at q2 X1
  have hnn : n = n1 + 1 := by rw [hn, hn1]; simp
  have hn1b : n1 ≤ 101 := by rw [hn1]; simp; omega
  obtain ⟨_, _, _, hcn, _, _⟩ := X1.blk
  have r1 : IntKind.i64.wrap ((n : Int) - 1) = (n1 : Int) := by rw [hnn, IntWalk.i64_in _ (by omega)]; omega
  have r2 : (0 : Int) ≤ (n1 : Int) := by omega
  have r3 : (n1 : Int) ≤ (cap : Int) := by omega
  have hpop := X1.pop (n' := n1) (by omega)
  have hnq := ndq_kb X3 (Kb.setCell w2 ⟨P, 2, none⟩ (.slice (some ⟨G, 0, none⟩) n1 cap)) (fun i _ he => by have he' : i = P := he; rw [he', X1.rP]; omega)
  have hfin : PIn w0 (w2.setCell ⟨P, 2, none⟩ (.slice (some ⟨G, 0, none⟩) n1 cap)) P G cap s i d (lo ++ [b]) g.whole nb := by
    refine ⟨ρ, vs.take (n1 * 2), ?_, fun i hi => X2 i (by simpa [World.setCell] using hi), hnq⟩
    rw [hn1] at hpop ⊢
    have e1 := flatG_take (lo ++ [b]) [g.nextWay]
    rw [e1] at hpop
    exact hpop
  have hfd : PIn w0 (w2.setCell ⟨P, 2, none⟩ (.slice (some ⟨G, 0, none⟩) n1 cap)).drew P G cap s i d (lo ++ [b]) g.whole nb := by
    obtain ⟨ρ, vs, Y1, Y2, Y3⟩ := hfin
    have hbd : Below (w2.setCell ⟨P, 2, none⟩ (.slice (some ⟨G, 0, none⟩) n1 cap)).heap.size (w2.setCell ⟨P, 2, none⟩ (.slice (some ⟨G, 0, none⟩) n1 cap)) (w2.setCell ⟨P, 2, none⟩ (.slice (some ⟨G, 0, none⟩) n1 cap)).drew := (Below.refl _ _).drew
    exact ⟨ρ, vs, Y1.below hbd, Y2, ndq_kb Y3 (Kb.of_below (fun _ => False) hbd) (fun _ _ h => h.elim)⟩
  have HP := Lib.hid (put_any w0 _ P G cap s i d lo b g.whole nb hfd (by omega) hrow)
  clear hfin hfd hpop hnq X1 X2 X3 qf hn hn1 hnn hn1b hcn
  go_wp2_with fail
  go_region
  go_wp2_with fail
  refine HP.out.mono ?_
  rintro e w3 ⟨rfl, h3⟩
  have HF := Lib.hid h3
  clear h3
  go_wp2
  go_end0
  exact ⟨rfl, HF.out⟩
set_option maxHeartbeats 1000000 in
theorem end_none (w : World) (P : Nat) (s : ByteArray) (i : Nat) (ov : Value) (d : Nat) (H : PsB w P s i ov ((d + 1 : Nat) : Int) true) (hd : d ≤ 1000000) :
    Calls Try.prog 40 #[ptr P] w fun e w' => e = .returned (.tuple #[]) ∧ PsB w' P s i ov d true ∧ Kb (fun j => j = P) w w' := by
  obtain ⟨_, _, _, c3, c4, cf⟩ := ps_cells H
  have f3 := cf 3
  obtain ⟨dd, hdd⟩ : ∃ dd : Int, dd = ((d + 1 : Nat) : Int) := ⟨_, rfl⟩
  have p1 : IntKind.i64.wrap (dd - 1) = (d : Int) := by rw [hdd, IntWalk.i64_in _ (by omega)]; omega
  rw [← hdd] at c3
  have HF := Lib.hid (deep_ps H (d : Int))
  clear H hdd cf
  go_enter Try.func40, Try.ntmps40
  go_wp2
  go_end0
  exact ⟨rfl, HF.out, Kb.setCell w ⟨P, 3, none⟩ _⟩
set_option maxHeartbeats 1000000 in
theorem begin_none (w : World) (P : Nat) (s : ByteArray) (i : Nat) (ov : Value) (d : Nat) (H : PsB w P s i ov d true) (hd : d ≤ 1000000) :
    Calls Try.prog 39 #[ptr P] w fun e w' => e = .returned (.tuple #[]) ∧ PsB w' P s i ov ((d + 1 : Nat) : Int) true ∧ Kb (fun j => j = P) w w' := by
  obtain ⟨_, _, _, c3, c4, cf⟩ := ps_cells H
  have f3 := cf 3
  obtain ⟨dd, hdd⟩ : ∃ dd : Int, dd = ((d + 1 : Nat) : Int) := ⟨_, rfl⟩
  have p1 : IntKind.i64.wrap ((d : Int) + 1) = dd := by rw [hdd, IntWalk.i64_in _ (by omega)]; omega
  rw [← hdd]
  have HF := Lib.hid (deep_ps H dd)
  clear H hdd cf
  go_enter Try.func39, Try.ntmps39
  go_wp2
  go_end0
  exact ⟨rfl, HF.out, Kb.setCell w ⟨P, 3, none⟩ _⟩
end Go.Proofs.Ytejdfpieblkapaa
