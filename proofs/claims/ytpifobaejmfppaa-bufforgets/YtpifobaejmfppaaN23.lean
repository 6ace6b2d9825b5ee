/- What BufPlays keeps beside the buffer: texts of its own. -/
import Derived.Test.YtpifobaejmfppaaN22
import Derived.Laws.AppendOwnNone
namespace Go.Proofs.Ytpifobaejmfppaa
open Go.RowKit

theorem Try.info9 : (Try.prog.info? 9).map (fun i => (i.zero, i.size, i.bytes)) = some (some (.string ⟨#[]⟩), 1, 16) := by kernel_rfl

/-- Texts that a slice shows. -/
def RdS (w : World) (A : Option Addr) (n c : Nat) (xs : List ByteArray) : Prop :=
  xs.length = n ∧ n ≤ c ∧ c ≤ 9223372036854775807 ∧ ((A = none ∧ n = 0 ∧ c = 0) ∨ ∃ g, A = some ⟨g, 0, none⟩ ∧ (xs ≠ [] → ∃ cur fz, w.heap[g]? = some (Obj.cells cur 9 fz) ∧ ∀ (i : Nat) (x : ByteArray), xs[i]? = some x → cur[i]? = some (.string x)))

theorem RdS.nil (w : World) : RdS w none 0 0 [] := ⟨rfl, Nat.le_refl _, by omega, .inl ⟨rfl, rfl, rfl⟩⟩
theorem RdS.kt {w w' : World} {A : Option Addr} {n c : Nat} {xs : List ByteArray} (h : RdS w A n c xs) (hk : KT w w') : RdS w' A n c xs := by
  obtain ⟨h1, h2, h3, h4⟩ := h
  refine ⟨h1, h2, h3, h4.imp id ?_⟩
  rintro ⟨g, hA, hx⟩
  refine ⟨g, hA, fun hne => ?_⟩
  obtain ⟨cur, fz, hg, hc⟩ := hx hne
  exact ⟨cur, fz, hk _ _ _ _ hg (by decide) (by decide), hc⟩
theorem RdS.empty (w : World) (g c : Nat) (hc : c ≤ 9223372036854775807) : RdS w (some ⟨g, 0, none⟩) 0 c [] := ⟨rfl, Nat.zero_le _, hc, .inr ⟨g, rfl, fun h => absurd rfl h⟩⟩
theorem own_form {w : World} {base e size n : Nat} {v : Value} {xs : List Value} (h : w.ownsRow base e size v n xs) : ∃ A c, v = .slice A n c := by
  rcases h.2 with ⟨hv, hn⟩ | ⟨g, cap, cur, hv, _⟩
  · exact ⟨none, 0, by rw [hv, hn]⟩
  · exact ⟨_, _, hv⟩
theorem RdS.own {w : World} {base n c : Nat} {A : Option Addr} {xs : List ByteArray} (h : w.ownsRow base 9 1 (.slice A n c) n (xs.map Value.string)) : RdS w A n c xs := by
  have hl : xs.length = n := by have := h.1; simpa using this
  obtain ⟨h1, h2⟩ := own_cap h
  refine ⟨hl, h1, h2, ?_⟩
  rcases h.2 with ⟨hv, hn⟩ | ⟨g, cap, cur, hv, hbb, hgg, k1, k2, k3, k4⟩
  · injection hv with a b c; exact .inl ⟨a, b, c⟩
  · injection hv with a b c
    refine .inr ⟨g, a, fun _ => ⟨cur, (0, 0), hgg, fun i x hx => ?_⟩⟩
    have hc : (xs.map Value.string)[i]? = some (.string x) := by rw [List.getElem?_map, hx]; rfl
    rw [← k4, List.getElem?_take] at hc
    split at hc
    · simpa using hc
    · cases hc
theorem RdS.pop {w : World} {A : Option Addr} {n c : Nat} {xs : List ByteArray} {x : ByteArray} (h : RdS w A (n + 1) c (xs ++ [x])) : ∃ g, A = some ⟨g, 0, none⟩ ∧ w.cell? ⟨g, n, none⟩ = some (.string x) ∧ RdS w A n c xs ∧ n + 1 ≤ c ∧ c ≤ 9223372036854775807 := by
  obtain ⟨h1, h2, h3, h4⟩ := h
  have hl : xs.length = n := by simpa using h1
  rcases h4 with ⟨_, hn, _⟩ | ⟨g, hA, hxx⟩
  · omega
  · obtain ⟨cur, fz, hg, hc⟩ := hxx (by simp)
    refine ⟨g, hA, ?_, ⟨hl, by omega, h3, .inr ⟨g, hA, fun _ => ⟨cur, fz, hg, fun i y hy => hc i y ?_⟩⟩⟩, h2, h3⟩
    · rw [Lib.cell_of_heap hg]; exact hc n x (by rw [List.getElem?_append_right (by omega)]; simp [hl])
    · rw [List.getElem?_append_left]; exact hy
      exact (List.getElem?_eq_some_iff.1 hy).1

set_option maxRecDepth 100000 in
/-- append onto a row of the call's own; the source shows texts. -/
theorem wpList_app_rd {w : World} {ops : Array Oper} {rest : List Oper} {o : Oper} {a : Act} {Q : Exit → Act → World → Prop} (hgd : o.guard = none) (s x : Operand)
    (ho : o.op = .call { callee := .builtin .append, args := #[s, x], argTypes := #[50, 50] }) (base : Nat) (v : Value) (n : Nat) (xs : List Value) (hs : a.eval s = v) (hown : w.ownsRow base 9 1 v n xs)
    (A : Option Addr) (m c : Nat) (ys : List ByteArray) (hx : a.eval x = .slice A m c) (hrd : RdS w A m c ys) (h63 : n + m ≤ 1000000000) (hbase : base ≤ w.heap.size)
    (h : ∀ v' w', w'.ownsRow base 9 1 v' (n + m) (xs ++ ys.map Value.string) → w.grownBy w' v.ownBlock → wpList Try.prog ops Q rest (a.put o.dst v') w') : wpList Try.prog ops Q (o :: rest) a w := by
  obtain ⟨i0, hi0, hz0, hz1, hz2⟩ := info_parts Try.info9
  obtain ⟨h1, h2, h3, h4⟩ := hrd
  rcases h4 with ⟨rfl, rfl, rfl⟩ | ⟨g, rfl, hxx⟩
  · have hy : ys = [] := List.eq_nil_of_length_eq_zero h1
    subst hy
    exact wpList_append_own_none hgd s x 50 ho base 9 i0 1 Try.underlying50 hi0 v n xs hs hown hx (h v w (by simpa using hown) (World.grownBy.refl w _))
  · refine wpList_append_own w hgd s x 50 ho base 9 i0 (.string ⟨#[]⟩) 1 16 Try.underlying50 hi0 hz0 hz1 hz2 rfl (by decide) v n xs hs hown ⟨g, 0, none⟩ m c (ys.map Value.string) hx (by rw [List.length_map]; omega) ?_ ?_ (by unfold maxLen; omega) (by omega) hbase fun v' w' h2 h3 _ => h v' w' h2 h3
    · intro j u hu
      rw [List.getElem?_map] at hu
      cases hy : ys[j]? with
      | none => rw [hy] at hu; cases hu
      | some y =>
        rw [hy] at hu
        injection hu with hu
        obtain ⟨cur, fz, hg, hc⟩ := hxx (fun h => by rw [h] at hy; cases hy)
        rw [add_none, Lib.cell_of_heap hg, hc j y hy, ← hu]
    · intro u hu
      obtain ⟨y, _, rfl⟩ := List.mem_map.1 hu
      rfl

/-- The texts of steps, the last one last. -/
def strs (ps : List St) : List ByteArray := (ps.map fun s => (⟨s.2.toArray⟩ : ByteArray)).reverse
theorem strs_cons (s : St) (ps : List St) : strs (s :: ps) = strs ps ++ [⟨s.2.toArray⟩] := by simp [strs]
theorem strs_len (ps : List St) : (strs ps).length = ps.length := by simp [strs]

theorem his_len {w : World} {N Bf made n : Nat} {P F : Value} {T : List UInt8} {ps fs : List St} (h : HisAt w N Bf P F made n T ps fs) : Calls Try.prog 34 #[.pointer (some ⟨Bf, 0, none⟩)] w fun e w' => e = .returned (.int .i64 T.length) ∧ w' = w := by
  obtain ⟨A, c, L, ht⟩ := h.tx
  exact blen_any ht.bf
theorem his_pieces {w : World} {N Bf made n : Nat} {P F : Value} {T : List UInt8} {ps fs : List St} (h : HisAt w N Bf P F made n T ps fs) : Calls Try.prog 37 #[.pointer (some ⟨Bf, 0, none⟩)] w fun e w' => e = .returned (.int .i64 (max 1 n : Nat)) ∧ w' = w := by
  obtain ⟨A, c, L, ht⟩ := h.tx
  exact bpieces_any ht.bf

theorem appl_tot_le (T : List UInt8) (l : List Ed) (h : rightB 0 T.length l = true) : (appl T 0 l).length ≤ T.length + tot l := by
  have := appl_len T l 0 (Nat.zero_le _) h
  have := sumGr_le l
  omega

/-- A buffer beside which the law keeps its own texts. -/
structure Pl (w : World) (N Bf k mo : Nat) (T : List UInt8) (Ap : Option Addr) (np cp : Nat) (Af : Option Addr) (nf cf : Nat) (P F : Value) (made n : Nat) (ps fs : List St) : Prop where
  h : HisAt w N Bf P F made n T ps fs
  b : Bd k made T ps fs
  p : RdS w Ap np cp (strs ps)
  f : RdS w Af nf cf (strs fs)
  m1 : max 1 n ≤ mo
  m2 : 1 + 2 * made ≤ mo
  m3 : mo ≤ 1 + 200000 * k

theorem Pl.below {w w' : World} {N Bf k mo : Nat} {T : List UInt8} {Ap : Option Addr} {np cp : Nat} {Af : Option Addr} {nf cf : Nat} {P F : Value} {made n : Nat} {ps fs : List St} (h : Pl w N Bf k mo T Ap np cp Af nf cf P F made n ps fs) (hb : Below w.heap.size w w') : Pl w' N Bf k mo T Ap np cp Af nf cf P F made n ps fs :=
  ⟨h.h.below hb, h.b, h.p.kt (kt_below hb), h.f.kt (kt_below hb), h.m1, h.m2, h.m3⟩
theorem Pl.more {w : World} {N Bf k k' mo : Nat} {T : List UInt8} {Ap : Option Addr} {np cp : Nat} {Af : Option Addr} {nf cf : Nat} {P F : Value} {made n : Nat} {ps fs : List St} (h : Pl w N Bf k mo T Ap np cp Af nf cf P F made n ps fs) (hk : k ≤ k') : Pl w N Bf k' mo T Ap np cp Af nf cf P F made n ps fs :=
  ⟨h.h, h.b.more hk, h.p, h.f, h.m1, h.m2, by have := h.m3; omega⟩
theorem Pl.np {w : World} {N Bf k mo : Nat} {T : List UInt8} {Ap : Option Addr} {np cp : Nat} {Af : Option Addr} {nf cf : Nat} {P F : Value} {made n : Nat} {ps fs : List St} (h : Pl w N Bf k mo T Ap np cp Af nf cf P F made n ps fs) : ps.length = np ∧ fs.length = nf := by
  have h1 := h.p.1
  have h2 := h.f.1
  rw [strs_len] at h1 h2
  exact ⟨h1, h2⟩
theorem own_empty (w : World) : (w.alloc (.cells #[] 9)).ownsRow w.heap.size 9 1 (.slice (some ⟨w.heap.size, 0, none⟩) 0 0) 0 [] :=
  ⟨rfl, .inr ⟨w.heap.size, 0, #[], rfl, Nat.le_refl _, heap_alloc_new w _, Nat.le_refl _, by unfold maxLen; omega, rfl, rfl⟩⟩
theorem RdS.one (w : World) (S : ByteArray) : RdS (w.alloc (.cells #[.string S] 9)) (some ⟨w.heap.size, 0, none⟩) 1 1 [S] :=
  ⟨rfl, Nat.le_refl _, by omega, .inr ⟨w.heap.size, rfl, fun _ => ⟨#[.string S], _, heap_alloc_new w _, fun i x hx => by
    cases i with
    | zero => simp at hx; subst hx; rfl
    | succ i => simp at hx⟩⟩⟩
theorem tot_le_appl (s : List UInt8) : ∀ (l : List Ed) (a : Nat), tot l ≤ (appl s a l).length
  | [], _ => Nat.zero_le _
  | e :: r, a => by
    have ih := tot_le_appl s r e.t.toNat
    rw [appl_cons, List.length_append, List.length_append, Ed.bs_len]
    simp only [tot]
    omega
theorem step_one (w : World) (f t : Int) (s : ByteArray) : StepV (w.alloc (.cells #[.int .i64 f, .int .i64 t, .string s] 35)) (.slice (some ⟨w.heap.size, 0, none⟩) 1 1) [⟨f, t, s⟩] :=
  ⟨_, _, rfl, rfl, .inr ⟨w.heap.size, 1, _, rfl, Nat.zero_le _, heap_alloc_new w _, Nat.le_refl _, by unfold maxLen; omega, rfl, rfl⟩⟩
theorem StepV.eds {w : World} {B : Option Addr} {n d : Nat} {l : List Ed} (h : StepV w (.slice B n d) l) : l.length = n ∧ n ≤ d ∧ d ≤ 9223372036854775807 ∧ EdsAt w w.heap.size B l := by
  obtain ⟨B', d', hv, ho⟩ := h
  injection hv with h1 h2 h3
  subst h1 h2 h3
  exact ⟨rfl, (own_cap ho).1, (own_cap ho).2, eds_of_own ho⟩
theorem hbx_below {w wr : World} (_hb : Below w.heap.size w wr) (o : Obj) (h : w.heap.size ≤ wr.heap.size) : Below w.heap.size wr (wr.alloc o) := (Below.refl _ wr).alloc h o
theorem below_from {w wr w4 : World} (hb : Below w.heap.size w wr) (h : Below w.heap.size w w4) (hz : wr.heap.size ≤ w4.heap.size) : Below w.heap.size wr w4 :=
  ⟨h.os.trans hb.os.symm, h.tape.trans hb.tape.symm, h.output.trans hb.output.symm, hz, fun i hi => (h.block i hi).trans (hb.block i hi).symm⟩
theorem great_tot {l : List Ed} (h : greatB l = false) : l.length ≤ 30 ∧ tot l ≤ 3000 := by
  rw [greatB, Bool.or_eq_false_iff] at h
  have h1 := tot_le_of_small l h.1
  have h2 : l.length ≤ 30 := by simpa using h.2
  exact ⟨h2, by omega⟩
end Go.Proofs.Ytpifobaejmfppaa
