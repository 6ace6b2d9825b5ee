/- Leaves of package buf: appendPiece, the stack's calls. -/
import Derived.Test.YtpifobaejmfppaaN1
namespace Go.Proofs.Ytpifobaejmfppaa
open Go.RowKit

theorem Try.info64 : (Try.prog.info? 64).map (fun i => (i.zero, i.size, i.bytes)) = some (some (.slice none 0 0), 1, 24) := by kernel_rfl
theorem Try.info22 : (Try.prog.info? 22).map (fun i => (i.zero, i.size, i.bytes)) = some (some (.slice none 0 0), 1, 24) := by kernel_rfl

/-- What appendPiece puts behind. -/
def pcOf (P : Option Addr) (len : Nat) : List Value := if len = 0 then [] else [.slice P len len]

set_option maxRecDepth 100000 in
set_option maxHeartbeats 2000000 in
theorem appendPiece_any (A : Option Addr) (n c : Nat) (P : Option Addr) (len cap base : Nat) (vs : List Value) (w : World) (hown : w.ownsRow base 64 1 (.slice A n c) n vs) (hbase : base ≤ w.heap.size) (hn : n ≤ 1048576) (hl : len ≤ cap) (_hcap : cap ≤ 9223372036854775807) :
    Calls Try.prog 55 #[.slice A n c, .slice P len cap] w fun e w' => ∃ A' c', e = .returned (.slice A' (n + (pcOf P len).length) c') ∧ w'.ownsRow base 64 1 (.slice A' (n + (pcOf P len).length) c') (n + (pcOf P len).length) (vs ++ pcOf P len) ∧ w.grownBy w' (Value.slice A n c).ownBlock ∧ ((Value.slice A' (n + (pcOf P len).length) c').ownBlock = (Value.slice A n c).ownBlock ∨ ∃ g, (Value.slice A' (n + (pcOf P len).length) c').ownBlock = some g ∧ w.heap.size ≤ g) := by
  obtain ⟨i0, hi0, hz0, hz1, hz2⟩ := info_parts Try.info64
  have HI := Lib.hid hi0; have HZ0 := Lib.hid hz0; have HZ1 := Lib.hid hz1; have HZ2 := Lib.hid hz2
  clear hi0 hz0 hz1 hz2
  have HO := Lib.hid hown; clear hown
  by_cases h0 : len = 0
  · subst h0
    go_enter Try.func55, Try.ntmps55
    go_wp2
    refine bodyPost_ret (v := .slice A n c) (by simp [results, Try.results55, go_sem]) rfl ?_
    refine ⟨A, c, rfl, by simpa [pcOf] using HO.out, grown_of_below (Below.refl _ _) _, .inl rfl⟩
  · have q1 : ((len : Int) == 0) = false := by rw [beq_eq_false_iff_ne]; omega
    have HP := Lib.hid (show pcOf P len = [.slice P len len] from if_neg h0)
    have h1 : (len : Int) ≤ cap := by omega
    go_enter Try.func55, Try.ntmps55
    go_wp2_with (at_builtin; refine wpList_append_lies _ rfl _ _ 87 rfl base 64 i0 _ 1 24 Try.underlying87 HI.out HZ0.out HZ1.out HZ2.out rfl (by omega) (.slice A n c) n _ rfl (HO.out.alloc _) ⟨w.heap.size, 0, none⟩ 1 1 [.slice P len len] rfl rfl (World.news_of_block (cs := #[.slice P len len]) (t := 64) (fr := (0, 0)) (heap_alloc_new w _)) (by simp [Value.oneCell']) (by omega) (by unfold maxLen; omega) (by omega) (by simp; omega) (w.heap.size + 1) (by simp) ?_)
    intro gg cap6 w6 hown6 hgrow6 hat6 hlt6
    have HO6 := Lib.hid hown6
    have HG6 := Lib.hid hgrow6
    have HA6 := Lib.hid hat6
    clear hown6 hgrow6 hat6 hlt6
    go_wp2
    refine bodyPost_ret (v := .slice (some ⟨gg, 0, none⟩) (n + 1) cap6) (by simp [results, Try.results55, go_sem]) rfl ?_
    rw [HP.out]
    refine ⟨some ⟨gg, 0, none⟩, cap6, rfl, HO6.out, (World.grownBy_alloc w _ _).trans HG6.out, ?_⟩
    rcases HA6.out with h | h
    · exact .inl (by rw [h]; rfl)
    · exact .inr ⟨gg, rfl, by omega⟩

set_option maxRecDepth 100000 in
set_option maxHeartbeats 2000000 in
theorem push_any (Bf off : Nat) (A : Option Addr) (n c base : Nat) (vs : List Value) (x : Value) (B : Option Addr) (m d : Nat) (hx : x = .slice B m d) (w : World) (hc : w.cell? ⟨Bf, off, none⟩ = some (.slice A n c)) (hf : w.frozen? ⟨Bf, off, none⟩ = false) (hown : w.ownsRow base 22 1 (.slice A n c) n vs) (hbase : base ≤ w.heap.size) (hn : n ≤ 1048576) (hB : Bf < w.heap.size) (hne : some Bf ≠ (Value.slice A n c).ownBlock) :
    Calls Try.prog 76 #[.pointer (some ⟨Bf, off, none⟩), x] w fun e w' => e = .returned (.tuple #[]) ∧ ∃ g c' w1, w' = w1.setCell ⟨Bf, off, none⟩ (.slice (some ⟨g, 0, none⟩) (n + 1) c') ∧ w1.ownsRow base 22 1 (.slice (some ⟨g, 0, none⟩) (n + 1) c') (n + 1) (vs ++ [x]) ∧ w.grownBy w1 (Value.slice A n c).ownBlock ∧ ((Value.slice A n c).ownBlock = some g ∨ w.heap.size ≤ g) := by
  subst hx
  obtain ⟨i0, hi0, hz0, hz1, hz2⟩ := info_parts Try.info22
  have HI := Lib.hid hi0; have HZ0 := Lib.hid hz0; have HZ1 := Lib.hid hz1; have HZ2 := Lib.hid hz2
  clear hi0 hz0 hz1 hz2
  have HO := Lib.hid hown; clear hown
  have HNE := Lib.hid hne; clear hne
  go_enter Try.func76, Try.ntmps76
  go_wp2_with (at_builtin; refine wpList_append_lies _ rfl _ _ 89 rfl base 22 i0 _ 1 24 Try.underlying89 HI.out HZ0.out HZ1.out HZ2.out rfl (by omega) (.slice A n c) n _ rfl (HO.out.alloc _) ⟨w.heap.size, 0, none⟩ 1 1 [.slice B m d] rfl rfl (World.news_of_block (cs := #[.slice B m d]) (t := 22) (fr := (0, 0)) (heap_alloc_new w _)) (by simp [Value.oneCell']) (by omega) (by unfold maxLen; omega) (by omega) (by simp; omega) (w.heap.size + 1) (by simp) ?_)
  intro gg cap6 w6 hown6 hgrow6 hat6 hlt6
  have hg6 := (World.grownBy_alloc w (.cells #[.slice B m d] 22) (Value.slice A n c).ownBlock).trans hgrow6
  have hc6 := (hg6.cell_far ⟨Bf, off, none⟩ hB HNE.out).trans hc
  have hf6 := (hg6.frozen_far ⟨Bf, off, none⟩ hB HNE.out).trans hf
  have HO6 := Lib.hid hown6
  have HG6 := Lib.hid hg6
  have HA6 := Lib.hid hat6
  clear hown6 hgrow6 hat6 hlt6 hg6 hc hf
  go_wp2
  go_end0
  refine ⟨rfl, gg, cap6, w6, rfl, HO6.out, HG6.out, ?_⟩
  rcases HA6.out with h | h
  · exact .inl h
  · exact .inr (by omega)

theorem size_any (Bf off : Nat) (A : Option Addr) (n c : Nat) (w : World) (hc : w.cell? ⟨Bf, off, none⟩ = some (.slice A n c)) :
    Calls Try.prog 63 #[.pointer (some ⟨Bf, off, none⟩)] w fun e w' => e = .returned (.int .i64 n) ∧ w' = w := by
  go_enter Try.func63, Try.ntmps63
  go_wp2
  go_ret
  exact ⟨rfl, rfl⟩

theorem drop_stack (Bf off : Nat) (v : Value) (w : World) (hc : w.cell? ⟨Bf, off, none⟩ = some v) (hf : w.frozen? ⟨Bf, off, none⟩ = false) :
    Calls Try.prog 73 #[.pointer (some ⟨Bf, off, none⟩)] w fun e w' => e = .returned (.tuple #[]) ∧ w' = w.setCell ⟨Bf, off, none⟩ (.slice none 0 0) := by
  go_enter Try.func73, Try.ntmps73
  go_wp2
  go_end0
  exact ⟨rfl, rfl⟩

theorem pop_none (Bf off : Nat) (A : Option Addr) (c : Nat) (w : World) (hc : w.cell? ⟨Bf, off, none⟩ = some (.slice A 0 c)) :
    Calls Try.prog 59 #[.pointer (some ⟨Bf, off, none⟩)] w fun e w' => e = .returned (.tuple #[.slice none 0 0, .bool false]) ∧ w' = w := by
  go_enter Try.func59, Try.ntmps59
  go_wp2
  go_ret2
  exact ⟨rfl, rfl⟩

set_option maxRecDepth 100000 in
set_option maxHeartbeats 1000000 in
theorem pop_some (Bf off g n c : Nat) (x : Value) (B : Option Addr) (m d : Nat) (hx : x = .slice B m d) (w : World) (hc : w.cell? ⟨Bf, off, none⟩ = some (.slice (some ⟨g, 0, none⟩) (n + 1) c)) (hf : w.frozen? ⟨Bf, off, none⟩ = false) (hl : n + 1 ≤ c) (hcm : c ≤ 9223372036854775807) (hcg : w.cell? ⟨g, n, none⟩ = some x) (hfg : w.frozen? ⟨g, n, none⟩ = false) (hne : g ≠ Bf) :
    Calls Try.prog 59 #[.pointer (some ⟨Bf, off, none⟩)] w fun e w' => e = .returned (.tuple #[x, .bool true]) ∧ w' = (w.setCell ⟨g, n, none⟩ (.slice none 0 0)).setCell ⟨Bf, off, none⟩ (.slice (some ⟨g, 0, none⟩) n c) := by
  subst hx
  have p1 : IntKind.i64.wrap (((n + 1 : Nat) : Int) - 1) = (n : Int) := by rw [IntWalk.i64_in _ (by omega)]; omega
  have p2 : (n : Int) < ((n + 1 : Nat) : Int) := by omega
  have p3 : (0 : Int) ≤ (n : Int) := by omega
  have p4 : (n : Int) ≤ (c : Int) := by omega
  go_enter Try.func59, Try.ntmps59
  go_wp2
  go_ret2
  exact ⟨rfl, rfl⟩
end Go.Proofs.Ytpifobaejmfppaa
