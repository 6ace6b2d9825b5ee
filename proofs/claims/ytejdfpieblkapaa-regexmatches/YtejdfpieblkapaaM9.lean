/- What end does at the root. -/
import Derived.Test.YtejdfpieblkapaaM7
import Derived.Laws.AppendOwnNone
namespace Go.Proofs.Ytejdfpieblkapaa
open Go.RowKit

/-- append of a nil slice, as one step of a region that draws. -/
theorem step_append_nil {P : Program} {w : World} {ops : Array Oper} {o : Oper} {a : Act} {K : Act → World → Prop} {Q : Exit → Act → World → Prop} {E : Prop} (hgd : o.guard = none) (s x : Operand) (t : TypeId)
    (ho : o.op = .call { callee := .builtin .append, args := #[s, x], argTypes := #[t, t] })
    (base : Nat) (e : TypeId) (i : TypeInfo) (size : Nat) (ht : P.underlying t = some (.slice e)) (hi : P.info? e = some i)
    (v : Value) (n : Nat) (xs : List Value) (hs : a.eval s = v) (hown : w.ownsRow base e size v n xs) (hx : a.eval x = .slice none 0 0)
    (h : K (a.put o.dst v) w) : if Region.wanted o (yielded ops a.tmps) = true then Oper.wp P o a w K Q else E := by
  have hw : Region.wanted o (yielded ops a.tmps) = true := by simp [Region.wanted, hgd]
  rw [if_pos hw]
  have hrun := run_append_owned_none (P := P) (w := w) base t o.type e i size ht hi v n xs hown
  unfold Oper.wp
  simp [execOp, ho, resolve, invoke, builtin, hs, hx, hrun, Result.andThen]
  exact h

set_option maxRecDepth 100000 in
set_option maxHeartbeats 2000000 in
theorem end_root (w : World) (r : Rx) (g : Gh) (root base R τ : Nat) (bv ev sv : Value) (Bl El Sl : List Nat) (hs : SpAt w r g root) (hr : RnAt w base R τ bv ev sv Bl El Sl) (hbase : base ≤ w.heap.size) (hbR : base ≤ R) :
    Calls Try.prog 51 #[ptr R, ptr root] w fun e w' => e = .returned (.tuple #[]) ∧ RnAt w' base R τ bv ev sv Bl El Sl ∧ SpAt w' r g root ∧ Fr base w w' := by
  obtain ⟨e, nb, h1, h2, h3⟩ := hs.at' [] root hs.root
  obtain ⟨sA, sc, rfl, hs1, hs2⟩ := own_form hr.eo
  obtain ⟨ns, hns⟩ : ∃ ns, ns = El.length := ⟨_, rfl⟩
  have hr' : RnAt w base R τ bv (.slice sA ns sc) sv Bl El Sl := by rw [hns]; exact hr
  have hrb := hr'.blk
  have c1 : w.cell? ⟨root, 1, none⟩ = some (.pointer none) := by unfold SpB at h3; rw [Lib.cell_of_heap h3]; rfl
  have c6 : w.cell? ⟨root, 6, none⟩ = some (.slice none 0 0) := by unfold SpB at h3; rw [Lib.cell_of_heap h3]; rfl
  have r2 : w.cell? ⟨R, 2, none⟩ = some (.slice sA ns sc) := by rw [Lib.cell_of_heap hrb]; rfl
  have fr2 : w.frozen? ⟨R, 2, none⟩ = false := Lib.frozen_of_heap hrb 2
  obtain ⟨i0, hi0, hz0, hz1, hz2⟩ := info_parts Try.info64
  have HI := Lib.hid hi0
  clear hi0 hz0 hz1 hz2
  have HS := Lib.hid hs; have HR := Lib.hid hr'
  have HO := Lib.hid (show w.ownsRow base 64 1 (.slice sA ns sc) ns (El.map ptr) by rw [hns]; exact hr.eo)
  have HNS := Lib.hid hns
  rw [← hns]
  clear hs hr hr' h1 h2 h3 hrb hns
  go_enter Try.func51, Try.ntmps51
  go_wp2_with fail
  go_region_law (refine step_append_nil (by rfl) _ _ _ (by rfl) base 64 i0 1 Try.underlying66 HI.out (.slice sA ns sc) ns (El.map ptr) (by rfl) HO.out.drew (by rfl) ?_)
  all_goals
    try go_wp2
    (try simp only [Exit.inBlock, Exit.then])
    refine bodyPost_ret (results_none rfl _ _ _) rfl ?_
    have hg6 : Kb (fun i => some i = (Value.slice sA ns sc).ownBlock) w w.drew := Kb.of_below _ (Below.refl _ w).drew
    obtain ⟨a1, a2, a3⟩ := rn_push2 (new := []) HR.out hg6 (by rw [List.append_nil, ← HNS.out]; exact HO.out.drew) (.inl rfl) hbR hbase
    rw [List.append_nil] at a1
    exact ⟨rfl, a1, HS.out.kr a2 ⟨_, HR.out.blk⟩, a3⟩
end Go.Proofs.Ytejdfpieblkapaa
