/- The hands of cut. -/
import Derived.Test.YtpifobaejmfppaaN5
namespace Go.Proofs.Ytpifobaejmfppaa
open Go.RowKit

theorem hand65 (v : Value) (w : World) : Calls Try.prog 65 #[v] w fun e w' => e = .returned (.tuple #[]) ∧ w' = w := by
  go_enter Try.func65, Try.ntmps65
  go_wp2
  go_end0
  exact ⟨rfl, rfl⟩
theorem cf_of {f : FuncId} {fn : Func} (hf : Try.prog.funcs[f]? = some fn) (hname : (fn.name == "runtime.NumGoroutine") = false) (hb : fn.body.isSome = true) (args : Array Value) (w : World) : Sem.run Try.prog (callFunc f args) w = .ok (.enter f args) w := by
  obtain ⟨c, hc⟩ := Option.isSome_iff_exists.1 hb
  have h1 : fn.name ≠ "runtime.NumGoroutine" := by simpa using hname
  simp [callFunc, hf, h1, hc]
theorem cf65 (args : Array Value) (w : World) : Sem.run Try.prog (callFunc 65 args) w = .ok (.enter 65 args) w := cf_of Try.func65 (by kernel_rfl) (by kernel_rfl) args w
theorem cf74 (args : Array Value) (w : World) : Sem.run Try.prog (callFunc 74 args) w = .ok (.enter 74 args) w := cf_of Try.func74 (by kernel_rfl) (by kernel_rfl) args w
theorem cf77 (args : Array Value) (w : World) : Sem.run Try.prog (callFunc 77 args) w = .ok (.enter 77 args) w := cf_of Try.func77 (by kernel_rfl) (by kernel_rfl) args w

/-- swap's variables: the pieces put down so far, and how many bytes they have. -/
structure SwAt (w : World) (base Bo Bz : Nat) (A : Option Addr) (n c : Nat) (vs : List Value) (sz : Int) : Prop where
  ho : One w Bo 87 (.slice A n c)
  hz : One w Bz 3 (.int .i64 sz)
  own : w.ownsRow base 64 1 (.slice A n c) n vs

theorem own_ne1 {w : World} {base e size n b t : Nat} {v u : Value} {xs : List Value} (h : w.ownsRow base e size v n xs) (hb : One w b t u) (ht : t ≠ e) : some b ≠ v.ownBlock := by
  rcases h.2 with ⟨rfl, _⟩ | ⟨g, cap, cur, rfl, _, hg, _⟩
  · simp [Value.ownBlock]
  · intro e'
    have : b = g := by simpa [Value.ownBlock] using e'
    subst this
    unfold One at hb
    rw [hg] at hb
    injection hb with hb
    injection hb with _ h2
    exact ht h2.symm

set_option maxRecDepth 100000 in
set_option maxHeartbeats 2000000 in
theorem hand74 (base Bo Bz : Nat) (A : Option Addr) (n c : Nat) (vs : List Value) (sz : Int) (P : Option Addr) (len cap : Nat) (w : World) (h : SwAt w base Bo Bz A n c vs sz) (hbase : base ≤ w.heap.size) (hn : n ≤ 1048576) (hl : len ≤ cap) (hcap : cap ≤ 9223372036854775807) (hlen : len ≤ 1099511627776) (h0 : 0 ≤ sz) (h1 : sz ≤ 1099511627776) :
    Calls Try.prog 74 #[.slice P len cap, .pointer (some ⟨Bo, 0, none⟩), .pointer (some ⟨Bz, 0, none⟩)] w fun e w' => e = .returned (.tuple #[]) ∧ ∃ A' c', SwAt w' base Bo Bz A' (n + (pcOf P len).length) c' (vs ++ pcOf P len) (sz + len) ∧ Kb (fun i => i = Bo ∨ i = Bz ∨ some i = (Value.slice A n c).ownBlock) w w' ∧ ((Value.slice A' (n + (pcOf P len).length) c').ownBlock = (Value.slice A n c).ownBlock ∨ ∃ g, (Value.slice A' (n + (pcOf P len).length) c').ownBlock = some g ∧ w.heap.size ≤ g) := by
  have co := h.ho.cell
  have H := Lib.hid h
  have ne1 := h.ho.ne h.hz (by decide)
  have HN1 := Lib.hid (own_ne1 h.own h.ho (by decide))
  have HN2 := Lib.hid (own_ne1 h.own h.hz (by decide))
  clear h
  go_enter Try.func74, Try.ntmps74
  go_wp2_with fail
  refine (appendPiece_any A n c P len cap base vs w H.out.own hbase hn hl hcap).mono ?_
  rintro e w1 ⟨A', c', rfl, ho1, hg1, hr1⟩
  obtain ⟨n', hn'⟩ : ∃ n', n' = n + (pcOf P len).length := ⟨_, rfl⟩
  rw [← hn'] at ho1 hr1 ⊢
  have HNN := Lib.hid hn'; clear hn'
  have k1 := Kb.of_grown hg1
  have o1 : One w1 Bo 87 (.slice A n c) := (k1.block _ H.out.ho.lt HN1.out).trans H.out.ho
  have z1 : One w1 Bz 3 (.int .i64 sz) := (k1.block _ H.out.hz.lt HN2.out).trans H.out.hz
  have co1 := o1.cell
  have fo1 := o1.frozen
  have cz1 := z1.cell
  have fz1 := z1.frozen
  have HX := Lib.hid (And.intro ho1 (And.intro k1 (And.intro o1 (And.intro z1 hr1))))
  clear ho1 hg1 hr1 k1 o1 z1
  have p1 : IntKind.i64.wrap (sz + (len : Int)) = sz + (len : Int) := IntWalk.i64_in _ (by omega)
  go_wp2
  go_end0
  obtain ⟨ho1, k1, o1, z1, hr1⟩ := HX.out
  have hn' := HNN.out
  rw [← hn']
  have hne1 := own_ne1 ho1 o1 (by decide)
  have hne2 := own_ne1 ho1 z1 (by decide)
  have s1 := o1.set (.slice A' n' c')
  have s2 : One (w1.setCell ⟨Bo, 0, none⟩ (.slice A' n' c')) Bz 3 (.int .i64 sz) := (Below.heap_setCell w1 ⟨Bo, 0, none⟩ _ Bz (Ne.symm ne1)).trans z1
  have k2 : Kb (fun i => i = Bo ∨ i = Bz ∨ some i = (Value.slice A n c).ownBlock) w ((w1.setCell ⟨Bo, 0, none⟩ (.slice A' n' c')).setCell ⟨Bz, 0, none⟩ (.int .i64 (sz + (len : Int)))) :=
    (((Kb.refl _ w).trans k1 (fun _ _ h => .inr (.inr h))).trans (Kb.setCell w1 ⟨Bo, 0, none⟩ _) (fun _ _ h => .inl h)).trans (Kb.setCell _ ⟨Bz, 0, none⟩ _) (fun _ _ h => .inr (.inl h))
  have ow : ((w1.setCell ⟨Bo, 0, none⟩ (.slice A' n' c')).setCell ⟨Bz, 0, none⟩ (.int .i64 (sz + (len : Int)))).ownsRow base 64 1 (.slice A' n' c') n' (vs ++ pcOf P len) :=
    own_kb (own_kb ho1 (Kb.setCell w1 ⟨Bo, 0, none⟩ _) (fun q hq he => hne1 (hq.trans (congrArg some he)).symm)) (Kb.setCell _ ⟨Bz, 0, none⟩ _) (fun q hq he => hne2 (hq.trans (congrArg some he)).symm)
  exact ⟨rfl, A', c', ⟨(Below.heap_setCell _ ⟨Bz, 0, none⟩ _ Bo ne1).trans s1, s2.set _, ow⟩, k2, hr1⟩
end Go.Proofs.Ytpifobaejmfppaa
