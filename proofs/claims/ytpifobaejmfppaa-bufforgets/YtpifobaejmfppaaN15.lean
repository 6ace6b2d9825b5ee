/- What tidy does; frames by the types of blocks. -/
import Derived.Test.YtpifobaejmfppaaN14
namespace Go.Proofs.Ytpifobaejmfppaa
open Go.RowKit

/-- Blocks that are no buffers and no stacks stand as they stood. -/
def KT (w w' : World) : Prop := ∀ (i : Nat) (cs : Array Value) (t : TypeId) (fz : Nat × Nat), w.heap[i]? = some (Obj.cells cs t fz) → t ≠ 95 → t ≠ 22 → w'.heap[i]? = some (Obj.cells cs t fz)
theorem KT.refl (w : World) : KT w w := fun _ _ _ _ h _ _ => h
theorem KT.trans {a b c : World} (h : KT a b) (k : KT b c) : KT a c := fun i cs t fz hi h1 h2 => k i cs t fz (h i cs t fz hi h1 h2) h1 h2
theorem Kb.kt {ex : Nat → Prop} {w w' : World} (h : Kb ex w w') (hx : ∀ i, ex i → ∀ (cs : Array Value) (t : TypeId) (fz : Nat × Nat), w.heap[i]? = some (Obj.cells cs t fz) → t = 95 ∨ t = 22) : KT w w' := by
  intro i cs t fz hi h1 h2
  refine (h.block i (lt_of_heap hi) ?_).trans hi
  intro he
  rcases hx i he cs t fz hi with h | h
  · exact h1 h
  · exact h2 h
theorem KT.own {w w' : World} {base e size n : Nat} {v : Value} {xs : List Value} (hk : KT w w') (h : w.ownsRow base e size v n xs) (h1 : e ≠ 95) (h2 : e ≠ 22) : w'.ownsRow base e size v n xs := by
  refine ⟨h.1, ?_⟩
  rcases h.2 with hn | ⟨g, cap, cur, hv, hbb, hgg, rest⟩
  · exact .inl hn
  · exact .inr ⟨g, cap, cur, hv, hbb, hk _ _ _ _ hgg h1 h2, rest⟩
theorem KT.pc {w w' : World} {q : Pc} (hk : KT w w') (h : PcAt w q) : PcAt w' q := by
  obtain ⟨cur, fz, hg, hb⟩ := h
  exact ⟨cur, fz, hk _ _ _ _ hg (by decide) (by decide), hb⟩
theorem TxAt.kt {w w' : World} {base Bf n c : Nat} {p f p' f' : Value} {made made' : Int} {A : Option Addr} {L : List Pc} {T : List UInt8} (h : TxAt w base Bf p f made A n c L T) (hk : KT w w') (hb : BfAt w' Bf p' f' made' (.slice A n c) T.length) : TxAt w' base Bf p' f' made' A n c L T :=
  ⟨hb, hk.own h.own (by decide) (by decide), h.ln, fun q hq => ⟨hk.pc (h.pcs q hq).1, (h.pcs q hq).2⟩, h.tx, h.mx⟩
theorem Kb.of_drewN {ex : Nat → Prop} (w : World) (k : Nat) : Kb ex w (w.drewN k) := ⟨rfl, rfl, rfl, Nat.le_refl _, fun _ _ _ => rfl⟩
theorem Kb.of_drew {ex : Nat → Prop} (w : World) : Kb ex w w.drew := ⟨rfl, rfl, rfl, Nat.le_refl _, fun _ _ _ => rfl⟩
theorem Kb.wider {ex ex' : Nat → Prop} {w w' : World} (h : Kb ex w w') (hx : ∀ i, ex i → ex' i) : Kb ex' w w' := ⟨h.os, h.tape, h.output, h.size, fun i hi hn => h.block i hi (fun he => hn (hx i he))⟩
theorem bf_kt {w w' : World} {Bf : Nat} {p f pc : Value} {made sz : Int} (h : BfAt w Bf p f made pc sz) (hk : Kb (fun i => i = Bf) w w') : KT w w' := hk.kt (fun i hi cs t fz hh => by
  subst hi
  unfold BfAt at h
  rw [h] at hh
  injection hh with hh
  injection hh with _ h2
  exact .inl h2.symm)

theorem pc_of_own {w : World} {base g n c : Nat} {T : List UInt8} (h : w.ownsRow base 5 1 (.slice (some ⟨g, 0, none⟩) n c) n (Lib.byteCells T)) : PcAt w ⟨g, 0, T⟩ := by
  rcases h.2 with ⟨hv, _⟩ | ⟨g', cap, cur, hv, _, hg, h1, h2, h3, h4⟩
  · cases hv
  · injection hv with hv
    injection hv with hv
    injection hv with hv
    subst hv
    refine ⟨cur, (0, 0), hg, fun i b hi => ?_⟩
    have hi' : T[i]? = some b := hi
    have hc : (Lib.byteCells T)[i]? = some (.int .u8 b.toNat) := by unfold Lib.byteCells; rw [List.getElem?_map, hi']; rfl
    rw [← h4, List.getElem?_take] at hc
    split at hc
    · rw [Nat.zero_add]; simpa using hc
    · cases hc

/-- What tidy leaves. -/
def TidyBack (N Bf : Nat) (p f : Value) (made : Nat) (T : List UInt8) (w : World) (e : Ending) (w' : World) : Prop :=
  e = .returned (.tuple #[]) ∧ ∃ A' c' L', TxAt w' N Bf p f made A' L'.length c' L' T ∧ L'.length ≤ 1 + 2 * made ∧ Kb (fun i => i = Bf) w w'

set_option maxRecDepth 100000 in
set_option maxHeartbeats 2000000 in
theorem tidy_yes (N Bf n c : Nat) (A : Option Addr) (p f : Value) (made : Nat) (L : List Pc) (T : List UInt8) (w : World) (h : TxAt w N Bf p f made A n c L T) (hN : N ≤ w.heap.size) (h1 : ¬ (n ≤ 256 ∧ n ≤ 1 + 2 * made)) (h3 : made ≤ 1000000000) (hT : T.length ≤ 1048576) : Calls Try.prog 58 #[.pointer (some ⟨Bf, 0, none⟩)] w (TidyBack N Bf p f made T w) := by
  have c3 := h.bf.c3
  have c2 := h.bf.c2
  have hBl := h.bf.lt
  have hnl : n ≤ T.length := by
    have := pcText_len L (fun q hq => (h.pcs q hq).2.1)
    rw [h.tx, h.ln] at this; exact this
  have v1 : IntKind.i64.wrap (2 * (made : Int)) = 2 * (made : Int) := IntWalk.i64_in _ (by omega)
  have v2 : IntKind.i64.wrap (1 + 2 * (made : Int)) = 1 + 2 * (made : Int) := IntWalk.i64_in _ (by omega)
  obtain ⟨mn, hmn⟩ : ∃ mn : Int, mn = min 256 (1 + 2 * (made : Int)) := ⟨_, rfl⟩
  have q1 : decide (mn < (n : Int)) = true := by simp; omega
  have hmn' := hmn.symm
  obtain ⟨g, hA, hg, hcells⟩ : ∃ g, A = some ⟨g, 0, none⟩ ∧ g < w.heap.size ∧ ∀ (j : Nat) (q : Pc), L[j]? = some q → w.cell? ⟨g, j, none⟩ = some q.val := by
    rcases h.own.2 with ⟨hv, h0⟩ | ⟨g, cap, cur, hv, hbg, hg, hr⟩
    · exfalso; omega
    · have hA : A = some ⟨g, 0, none⟩ := by injection hv
      subst hA
      refine ⟨g, rfl, lt_of_heap hg, fun j q hj => ?_⟩
      have e0 := h.own.cells (g := g) rfl j q.val (by rw [List.getElem?_map, hj]; rfl)
      rw [add_none] at e0
      exact e0
  subst hA
  obtain ⟨hnc, hcm⟩ := own_cap h.own
  have HC := Lib.hid (fun k => concat_any g n c L T (w.drewN k) h.ln hcells hg (fun q hq => ⟨(h.pcs q hq).1.keep rfl, (h.pcs q hq).2⟩) h.tx hT (by omega) hnc hcm)
  have HH := Lib.hid h
  obtain ⟨z, hz⟩ : ∃ z, z = T.length := ⟨_, rfl⟩
  rw [← hz] at HC hnl hT
  have HZ := Lib.hid hz
  clear h hcells hmn hz
  go_enter Try.func58, Try.ntmps58
  go_wp2_with fail
  go_quiet (fail)
  go_wp2_with fail
  refine (HC.out nq).mono ?_
  rintro e w1 ⟨g', cap, rfl, hown, hb⟩
  have hb1 : Below w.heap.size w w1 := ⟨hb.os, hb.tape, hb.output, hb.size, hb.block⟩
  have hown1 : w1.ownsRow w.heap.size 5 1 (.slice (some ⟨g', 0, none⟩) z cap) z (Lib.byteCells T) := hown
  obtain ⟨hcp1, hcp2⟩ := own_cap hown1
  have HO := Lib.hid hown1; have HB := Lib.hid hb1
  clear hown hb hown1 hb1 HC
  go_wp2_with fail
  refine (appendPiece_any none 0 0 (some ⟨g', 0, none⟩) z cap N [] w1 (World.ownsRow_nil _ _ _ _) (Nat.le_trans hN HB.out.size) (by omega) hcp1 hcp2).mono ?_
  rintro e w2 ⟨A', c', rfl, ho2, hg2, _⟩
  have hb2 : Below w.heap.size w w2 := HB.out.grown hg2 HB.out.size (fun g hg => by simp [Value.ownBlock] at hg)
  have hpc : pcOf (some ⟨g', 0, none⟩) z = [(⟨g', 0, T⟩ : Pc).val] := by
    rw [pcOf, if_neg (by omega)]; simp [Pc.val, HZ.out]
  rw [hpc] at ho2 ⊢
  rw [List.nil_append, Nat.zero_add, List.length_singleton] at ho2
  rw [Nat.zero_add, List.length_singleton]
  have hpc2 : PcAt w2 ⟨g', 0, T⟩ := (pc_of_own HO.out).keep (hg2.block _ (pc_lt (pc_of_own HO.out)) (by simp [Value.ownBlock]))
  have hbf2 : BfAt w2 Bf p f made (.slice (some ⟨g, 0, none⟩) n c) T.length := (hb2.block _ hBl).trans HH.out.bf
  have d3 := hbf2.c3
  have f3 := hbf2.fz 3
  have HO2 := Lib.hid ho2; have HB2 := Lib.hid hb2; have HP2 := Lib.hid hpc2; have HF2 := Lib.hid hbf2
  clear ho2 hg2 hb2 hpc hpc2 hbf2
  go_wp2
  go_end0
  have hkb : Kb (fun i => i = Bf) w (w2.setCell ⟨Bf, 3, none⟩ (.slice A' 1 c')) := (Kb.of_below _ HB2.out).trans (Kb.setCell w2 ⟨Bf, 3, none⟩ _) (fun i _ h => h)
  have hbf := HF2.out.s3 (.slice A' 1 c')
  have hne := own_ne_bf HO2.out HF2.out (by decide)
  have hzz := HZ.out
  refine ⟨rfl, A', c', [⟨g', 0, T⟩], ⟨hbf, ?_, rfl, fun q hq => ?_, by simp [pcText], by omega⟩, by simp, hkb⟩
  · exact own_kb HO2.out (Kb.setCell w2 ⟨Bf, 3, none⟩ _) (fun g hg he => hne ((congrArg some he.symm).trans hg.symm))
  · have : q = ⟨g', 0, T⟩ := by simpa using hq
    subst this
    exact ⟨(bf_kt HF2.out (Kb.setCell w2 ⟨Bf, 3, none⟩ _)).pc HP2.out, by show 0 < T.length; omega, by show T.length ≤ _; omega⟩

theorem tidy_any (N Bf n c : Nat) (A : Option Addr) (p f : Value) (made : Nat) (L : List Pc) (T : List UInt8) (w : World) (h : TxAt w N Bf p f made A n c L T) (hN : N ≤ w.heap.size) (h3 : made ≤ 1000000000) (hT : T.length ≤ 1048576) : Calls Try.prog 58 #[.pointer (some ⟨Bf, 0, none⟩)] w (TidyBack N Bf p f made T w) := by
  by_cases h1 : n ≤ 256 ∧ n ≤ 1 + 2 * made
  · refine (tidy_no h.bf h1.1 (by omega) (by omega)).mono ?_
    rintro e w' ⟨rfl, k, rfl⟩
    refine ⟨rfl, A, c, L, ?_, by rw [h.ln]; exact h1.2, Kb.of_drewN w k⟩
    rw [h.ln]
    exact h.kt (fun i cs t fz hi _ _ => hi) h.bf
  · exact tidy_yes N Bf n c A p f made L T w h hN h1 h3 hT
end Go.Proofs.Ytpifobaejmfppaa
