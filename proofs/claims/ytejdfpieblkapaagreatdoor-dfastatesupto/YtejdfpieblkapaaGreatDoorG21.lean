/- The keys of a set, sorted. -/
import Derived.Test.YtejdfpieblkapaaGreatDoorG15
import Derived.Test.YtejdfpieblkapaaGreatDoorG21a
namespace Go.Proofs.YtejdfpieblkapaaGreatDoor
open Go.RowKit Go.Maps Go.Sort Go.Shelf Go.Proofs

abbrev anyR : Value → Option (DataW Unit × List MemPlace) := fun _ => some (.nil, [])
theorem key_int (n : Int) (h : 0 ≤ n ∧ n < 4611686018427387904) : keyOf Tryz.prog 3 (.int .i64 n) = some (.int .i64 n) := by
  have hw : (Lit.int .i64 n).wf = true := by
    simp [Lit.wf, IntKind.min, IntKind.max, IntKind.bits, IntKind.signed]
    omega
  simp [keyOf, Tryz.underlying3, mapKey, hw]
theorem PsAt.owns {w : World} {b : Nat} {l : List Nat} (h : PsAt w b l) (hl : l.length ≤ 100000) (hp : ∀ p ∈ l, p ≤ 1000000) : ∃ D0 : DataW Unit, w.ownsMap Tryz.prog 3 anyR b l.length D0 ∧ (intKeys D0).Perm (l.map fun (p : Nat) => (p : Int)) ∧ Maps.size D0 = l.length := by
  obtain ⟨hnd, f, ⟨es, clock, hb, hst, hK, hsz, hf⟩, hps⟩ := h
  have hkey : ∀ e ∈ es.toList, ∃ p ∈ l, e.key = pv p := fun e he => by
    obtain ⟨_, p, h1, h2⟩ := (hps e.key e.val).1 ((hf _ _).2 ⟨e, he, rfl, rfl⟩)
    exact ⟨p, h1, h2⟩
  have hrd : ∀ e ∈ es.toList, Go.WideElems.rd Tryz.prog 3 anyR e = some (.int .i64 (match e.key with | .int _ n => n | _ => 0), .nil) := fun e he => by
    obtain ⟨p, h1, h2⟩ := hkey e he
    have := hp p h1
    unfold Go.WideElems.rd
    rw [h2, key_int p (by omega)]
    rfl
  have hrg : es.toList.map (Go.WideElems.rg Tryz.prog 3 anyR) = es.toList.map (fun e => ((.int .i64 (match e.key with | .int _ n => n | _ => 0) : Lit), (.nil : DataW Unit))) := by
    refine List.map_congr_left (fun e he => ?_)
    unfold Go.WideElems.rg
    rw [hrd e he]
    rfl
  refine ⟨_, ⟨es, clock, hb, ⟨by unfold maxLen; omega, hst, fun e he => ⟨_, hrd e he⟩⟩, by omega, rfl⟩, ?_, ?_⟩
  · have hk2 : (es.toList.map (·.key)).Perm (l.map pv) := by
      refine (List.perm_ext_iff_of_nodup hst.2.2 ?_).2 (fun k => ⟨fun hk => ?_, fun hk => ?_⟩)
      · exact List.Pairwise.map pv (fun a b hne e => hne (pv_inj e)) hnd
      · obtain ⟨e, he, rfl⟩ := List.mem_map.1 hk
        obtain ⟨p, h1, h2⟩ := hkey e he
        exact List.mem_map.2 ⟨p, h1, h2.symm⟩
      · obtain ⟨p, h1, rfl⟩ := List.mem_map.1 hk
        obtain ⟨e, he, h2, _⟩ := (hf (pv p) (.agg #[])).1 ((hps _ _).2 ⟨rfl, p, h1, rfl⟩)
        exact List.mem_map.2 ⟨e, he, h2⟩
    have h1 : (intKeys (.map ((es.toList.map (Go.WideElems.rg Tryz.prog 3 anyR)).foldr DataW.insert []))).Perm ((es.toList.map (Go.WideElems.rg Tryz.prog 3 anyR)).map fun p => Go.intOf p.1) := (Go.WideShapes.sorted_perm _).map _
    refine h1.trans ?_
    rw [hrg, List.map_map]
    have h2 := hk2.map (fun v : Value => match v with | .int _ n => n | _ => (0 : Int))
    rw [List.map_map, List.map_map] at h2
    refine (List.Perm.of_eq ?_).trans (h2.trans (List.Perm.of_eq ?_))
    · exact List.map_congr_left (fun e he => by
        obtain ⟨p, _, h3⟩ := hkey e he
        simp only [Function.comp, h3]
        rfl)
    · exact List.map_congr_left (fun p _ => rfl)
  · show ((es.toList.map (Go.WideElems.rg Tryz.prog 3 anyR)).foldr DataW.insert []).length = _
    rw [(Go.WideShapes.sorted_perm _).length_eq, List.length_map, Array.length_toList, hsz]
theorem up_sorted {l : List Nat} (h : l.Pairwise (· < ·)) {ss : List Int} (hs : ss.Perm (l.map fun (p : Nat) => (p : Int))) : ss.mergeSort (fun x y => decide (x ≤ y)) = l.map fun (p : Nat) => (p : Int) := by
  have tr : ∀ a b c : Int, leI a b = true → leI b c = true → leI a c = true := fun a b c h1 h2 => by simp only [leI, decide_eq_true_eq] at *; exact Int.le_trans h1 h2
  have tot : ∀ a b : Int, (leI a b || leI b a) = true := fun a b => by simp only [leI, Bool.or_eq_true, decide_eq_true_eq]; exact Int.le_total a b
  refine List.Perm.eq_of_pairwise (le := fun a b => leI a b = true) (fun a b _ _ h1 h2 => ?_) (List.pairwise_mergeSort tr tot ss) ?_ ((List.mergeSort_perm ss leI).trans hs)
  · simp only [leI, decide_eq_true_eq] at h1 h2
    exact Int.le_antisymm h1 h2
  · refine List.pairwise_map.2 (h.imp (fun h => ?_))
    simp only [leI, decide_eq_true_eq]
    omega
theorem sorts_any (m : Nat) : AnyZI.SortsIn Tryz.prog Tryz.sortedA_ren Fence.wide m :=
  ⟨fun blk off cap ss W hH hblk hsz => callsIn_wide.2 (AnyM.slices_Sort_int Tryz.sortA blk off cap ss W hH hblk hsz),
   fun p cap W => callsIn_wide.2 (AnyM.slices_Sort_int_none Tryz.sortA p cap W)⟩
theorem keys_any (w : World) (mb : Option Nat) : Calls Tryz.prog 84 #[.map mb] w fun e w' => e = .returned (.func (.func 125) #[] #[.pointer (some ⟨w.heap.size, 0, none⟩)]) ∧ w' = w.alloc (.cells #[.map mb] 140) :=
  (callsIn_wide (n := 5)).1 (AnyZI.keys_in Tryz.keysA Fence.wide 5 trivial rfl mb w)
theorem sorted_any (w : World) (B b : Nat) (l : List Nat) (hB : w.cell? ⟨B, 0, none⟩ = some (.map (some b))) (hBl : B < w.heap.size) (h : PsAt w b l) (hl : l.length ≤ 100000) (hp : ∀ p ∈ l, p ≤ 1000000) (hs : l.Pairwise (· < ·)) :
    Calls Tryz.prog 83 #[.func (.func 125) #[] #[.pointer (some ⟨B, 0, none⟩)]] w fun e w' => ∃ v, e = .returned v ∧ w'.ownsRow w.heap.size 3 1 v l.length (l.map pv) ∧ Below w.heap.size w w' := by
  obtain ⟨D0, hown, hkeys, hsz⟩ := h.owns hl hp
  have hseq : SeqGives Fence.wide 2 Tryz.prog 125 #[.pointer (some ⟨B, 0, none⟩)] encZ (fun ss => ss.Perm (intKeys D0)) (Maps.size D0) w :=
    AnyZI.keys_gives (ρ := Tryz.keysA_ren) { Tryz.keysA with } Fence.wide _ trivial rfl (by omega) B b l.length D0 _ hBl hB hown
  have cS := AnyZI.sorted_in Tryz.sortedA Fence.wide 5 trivial trivial trivial trivial rfl (by omega) (sorts_any _) (enters_of Tryz.func124 (by kernel_rfl) rfl) 125 #[.pointer (some ⟨B, 0, none⟩)] trivial (enters_of Tryz.func125 (by kernel_rfl) rfl) _ _ (by rw [hsz]; unfold maxLen; omega) (by rw [hsz]; omega) _ hseq
  change CallsIn _ _ Tryz.prog 83 _ _ _ at cS
  refine ((callsIn_wide (n := 5)).1 cS).mono ?_
  rintro e w' ⟨v, ss, rfl, hS, hrow, _, hb⟩
  have h1 := hS.trans hkeys
  rw [up_sorted hs h1, List.map_map] at hrow
  have h2 : ss.length = l.length := by rw [h1.length_eq, List.length_map]
  rw [h2] at hrow
  exact ⟨v, rfl, hrow, hb⟩
theorem sorted_nil (w : World) (B : Nat) (hB : w.cell? ⟨B, 0, none⟩ = some (.map none)) (hBl : B < w.heap.size) :
    Calls Tryz.prog 83 #[.func (.func 125) #[] #[.pointer (some ⟨B, 0, none⟩)]] w fun e w' => ∃ v, e = .returned v ∧ w'.ownsRow w.heap.size 3 1 v 0 [] ∧ Below w.heap.size w w' := by
  have hseq : SeqGives Fence.wide 2 Tryz.prog 125 #[.pointer (some ⟨B, 0, none⟩)] encZ (fun ss : List Int => ss = []) 0 w :=
    AnyZI.keys_gives_nil (ρ := Tryz.keysA_ren) { Tryz.keysA with } Fence.wide _ trivial rfl B _ hBl hB
  have cS := AnyZI.sorted_in Tryz.sortedA Fence.wide 5 trivial trivial trivial trivial rfl (by omega) (sorts_any _) (enters_of Tryz.func124 (by kernel_rfl) rfl) 125 #[.pointer (some ⟨B, 0, none⟩)] trivial (enters_of Tryz.func125 (by kernel_rfl) rfl) _ 0 (Nat.zero_le _) (by omega) _ hseq
  change CallsIn _ _ Tryz.prog 83 _ _ _ at cS
  refine ((callsIn_wide (n := 5)).1 cS).mono ?_
  rintro e w' ⟨v, ss, rfl, rfl, hrow, _, hb⟩
  have hr := hrow
  rw [List.mergeSort_nil] at hr
  exact ⟨v, rfl, hr, hb⟩
theorem sorted_o (w : World) (B : Nat) (o : Option Nat) (l : List Nat) (hB : w.cell? ⟨B, 0, none⟩ = some (.map o)) (hBl : B < w.heap.size) (h : PsO w o l) (hl : l.length ≤ 100000) (hp : ∀ p ∈ l, p ≤ 1000000) (hs : l.Pairwise (· < ·)) :
    Calls Tryz.prog 83 #[.func (.func 125) #[] #[.pointer (some ⟨B, 0, none⟩)]] w fun e w' => ∃ v, e = .returned v ∧ w'.ownsRow w.heap.size 3 1 v l.length (l.map pv) ∧ Below w.heap.size w w' := by
  cases o with
  | none =>
    have h' : l = [] := h
    subst h'
    exact sorted_nil w B hB hBl
  | some b => exact sorted_any w B b l hB hBl h hl hp hs
end Go.Proofs.YtejdfpieblkapaaGreatDoor

/- The machine's rows. -/
namespace Go.Proofs.YtejdfpieblkapaaGreatDoor
open Go.RowKit Go.Shelf

theorem Bd.kbt {w w' : World} {p : BP} {X : Nat → Prop} {ss : List Ws} {rl : List Nat} {F : Nat → Nat → Bool} {sv rv : Value} {ex : Nat → Prop} (h : Bd w p X ss rl F sv rv) (hk : Kb ex w w') (ht : ∀ i, ex i → ∃ cs t fz, w.heap[i]? = some (.cells cs t fz) ∧ t ≠ 83 ∧ t ≠ 79 ∧ t ≠ 100 ∧ t ≠ 3 ∧ t ≠ 87 ∧ t ≠ 99) : Bd w' p X ss rl F sv rv := by
 have hty : ∀ (i : Nat) (cs' : Array Value) (t' : TypeId) (fz' : Nat × Nat), w.heap[i]? = some (.cells cs' t' fz') → (t' = 83 ∨ t' = 79 ∨ t' = 100 ∨ t' = 3 ∨ t' = 87 ∨ t' = 99) → w'.heap[i]? = some (.cells cs' t' fz') := fun i cs' t' fz' hi hne => (hk.block i (lt_of_heap hi) (fun e => by
  obtain ⟨cs, t, fz, h1, h2⟩ := ht i e
  rw [hi] at h1
  injection h1 with h1
  injection h1 with _ e2 _
  rw [← e2] at h2
  rcases hne with h | h | h | h | h | h <;> rw [h] at h2 <;> simp at h2)).trans hi
 have nx : ∀ (q : Nat) (cs : Array Value) (t : TypeId), w.heap[q]? = some (.cells cs t (0, 0)) → (t = 100 ∨ t = 3) → ¬ ex q := fun q cs t h3 h4 e => by
  obtain ⟨cs', t', fz, h1, h2⟩ := ht q e
  rw [h3] at h1
  injection h1 with h1
  injection h1 with _ e2 _
  rw [← e2] at h2
  rcases h4 with h | h <;> rw [h] at h2 <;> simp at h2
 refine ⟨hty _ _ _ _ h.bld (by simp), hty _ _ _ _ h.mach (by simp), own_kb h.sets hk (fun q hq => ?_), own_kb h.rules hk (fun q hq => ?_), h.fo.kb hk (fun i cs' t' fz' e hi => ?_), h.xs, h.xr, h.xm, h.xb, h.xg, h.cap, fun i hi => by
  obtain ⟨cs', t', h1, h2⟩ := h.xt i hi
  exact ⟨cs', t', hty _ _ _ _ h1 (by unfold XT at h2; rcases h2 with h | h | h | h <;> simp [h]), h2⟩⟩
 ·obtain ⟨_, cs, h3⟩ := own_ty h.sets hq
  exact nx _ _ _ h3 (.inl rfl)
 ·obtain ⟨_, cs, h3⟩ := own_ty h.rules hq
  exact nx _ _ _ h3 (.inr rfl)
 ·obtain ⟨cs, t, fz, h1, h2⟩ := ht i e
  rw [hi] at h1
  injection h1 with h1
  injection h1 with _ e2 _
  rw [← e2] at h2
  exact ⟨h2.2.2.2.2.1, h2.2.2.2.2.2⟩
theorem Bd.stays {w : World} {p : BP} {X : Nat → Prop} {ss : List Ws} {rl : List Nat} {F : Nat → Nat → Bool} {sv rv : Value} (h : Bd w p X ss rl F sv rv) (j : Nat) (v : Value) :
  (w.setCell ⟨p.mb, j, none⟩ v).heap[p.bb]? = some (.cells #[ptr p.mb, .map (some p.gb)] 83 (0, 0)) ∧ (w.setCell ⟨p.mb, j, none⟩ v).ownsRow 0 100 4 sv ss.length (flatW ss) ∧ (w.setCell ⟨p.mb, j, none⟩ v).ownsRow 0 3 1 rv rl.length (rl.map pv) ∧ FoAt (w.setCell ⟨p.mb, j, none⟩ v) p.A p.cnt p.gs X F ∧ (w.setCell ⟨p.mb, j, none⟩ v).heap[p.mb]? = some (.cells (#[sv, rv, .slice p.A p.cnt p.c, p.fv, p.lv, p.ev].setIfInBounds j v) 79 (0, 0)) ∧ Kb (fun i => i = p.mb) w (w.setCell ⟨p.mb, j, none⟩ v) ∧ ∀ i, X i → ∃ cs t, (w.setCell ⟨p.mb, j, none⟩ v).heap[i]? = some (.cells cs t (0, 0)) ∧ XT t := by
 obtain ⟨s1, s2⟩ := set1 (i := j) h.mach v
 refine ⟨(s2.block _ (lt_of_heap h.bld) (fun e => by have h1 := h.bld; rw [e, h.mach] at h1; cases h1)).trans h.bld, own_kb h.sets s2 (fun q hq e => ?_), own_kb h.rules s2 (fun q hq e => ?_), h.fo.kb s2 (fun i cs' t' fz' e hi => ?_), s1, s2, fun i hi => ?_⟩
 ·obtain ⟨_, cs, h3⟩ := own_ty h.sets hq
  rw [e, h.mach] at h3; cases h3
 ·obtain ⟨_, cs, h3⟩ := own_ty h.rules hq
  rw [e, h.mach] at h3; cases h3
 ·rw [e, h.mach] at hi
  injection hi with hi
  injection hi with _ h3
  rw [← h3]; decide
 ·by_cases e : i = p.mb
  ·rw [e]; exact ⟨_, _, s1, .inl rfl⟩
  ·obtain ⟨cs', t', h1, h2⟩ := h.xt i hi
   exact ⟨cs', t', (s2.block i (lt_of_heap h1) e).trans h1, h2⟩
theorem Bd.setF {w : World} {p : BP} {X : Nat → Prop} {ss : List Ws} {rl : List Nat} {F : Nat → Nat → Bool} {sv rv : Value} (h : Bd w p X ss rl F sv rv) (v : Value) : Bd (w.setCell ⟨p.mb, 3, none⟩ v) { p with fv := v } X ss rl F sv rv := by
 obtain ⟨h1, h2, h3, h4, h5, h6, h7⟩ := h.stays 3 v
 exact ⟨h1, h5, h2, h3, h4, h.xs, h.xr, h.xm, h.xb, h.xg, h.cap, h7⟩
theorem Bd.setL {w : World} {p : BP} {X : Nat → Prop} {ss : List Ws} {rl : List Nat} {F : Nat → Nat → Bool} {sv rv : Value} (h : Bd w p X ss rl F sv rv) (v : Value) : Bd (w.setCell ⟨p.mb, 4, none⟩ v) { p with lv := v } X ss rl F sv rv := by
 obtain ⟨h1, h2, h3, h4, h5, h6, h7⟩ := h.stays 4 v
 exact ⟨h1, h5, h2, h3, h4, h.xs, h.xr, h.xm, h.xb, h.xg, h.cap, h7⟩
theorem Bd.setE {w : World} {p : BP} {X : Nat → Prop} {ss : List Ws} {rl : List Nat} {F : Nat → Nat → Bool} {sv rv : Value} (h : Bd w p X ss rl F sv rv) (v : Value) : Bd (w.setCell ⟨p.mb, 5, none⟩ v) { p with ev := v } X ss rl F sv rv := by
 obtain ⟨h1, h2, h3, h4, h5, h6, h7⟩ := h.stays 5 v
 exact ⟨h1, h5, h2, h3, h4, h.xs, h.xr, h.xm, h.xb, h.xg, h.cap, h7⟩
def RowsV (w : World) (X : Nat → Prop) (L : List (List Nat)) (vals : List Value) : Prop := vals.length = L.length ∧ ∀ (i : Nat) (l : List Nat), L[i]? = some l → ∃ v, vals[i]? = some v ∧ w.ownsRow 0 3 1 v l.length (l.map pv) ∧ ∀ q, v.ownBlock = some q → ¬ X q
theorem RowsV.kb {w w' : World} {X : Nat → Prop} {L : List (List Nat)} {vals : List Value} {ex : Nat → Prop} (h : RowsV w X L vals) (hk : Kb ex w w') (hx : ∀ i cs fz, ex i → w.heap[i]? = some (.cells cs 3 fz) → X i) : RowsV w' X L vals :=
 ⟨h.1, fun i l hl => by
  obtain ⟨v, h1, h2, h3⟩ := h.2 i l hl
  exact ⟨v, h1, own_kb h2 hk (fun q hq e => by
   obtain ⟨_, cs, h4⟩ := own_ty h2 hq
   exact h3 q hq (hx q _ _ e h4)), h3⟩⟩
theorem RowsV.x {w : World} {X X' : Nat → Prop} {L : List (List Nat)} {vals : List Value} (h : RowsV w X L vals) (hx : ∀ i, i < w.heap.size → X' i → X i) : RowsV w X' L vals :=
 ⟨h.1, fun i l hl => by
  obtain ⟨v, h1, h2, h3⟩ := h.2 i l hl
  exact ⟨v, h1, h2, fun q hq e => by
   obtain ⟨_, cs, h4⟩ := own_ty h2 hq
   exact h3 q hq (hx q (lt_of_heap h4) e)⟩⟩
theorem RowsV.snoc {w : World} {X : Nat → Prop} {L : List (List Nat)} {vals : List Value} (h : RowsV w X L vals) {v : Value} {l : List Nat} (h1 : w.ownsRow 0 3 1 v l.length (l.map pv)) (h2 : ∀ q, v.ownBlock = some q → ¬ X q) : RowsV w X (L ++ [l]) (vals ++ [v]) := by
 refine ⟨by simp [h.1], fun i l' hl => ?_⟩
 rcases Nat.lt_or_ge i L.length with hi | hi
 ·rw [List.getElem?_append_left hi] at hl
  rw [List.getElem?_append_left (by rw [h.1]; exact hi)]
  exact h.2 i l' hl
 ·have hi2 : i = L.length := by
   have := (List.getElem?_eq_some_iff.1 hl).1
   simp at this; omega
  subst hi2
  rw [List.getElem?_append_right (Nat.le_refl _)] at hl
  simp at hl
  subst hl
  exact ⟨v, by rw [List.getElem?_append_right (by rw [h.1]; exact Nat.le_refl _), h.1]; simp, h1, h2⟩
structure Mc (w : World) (B : Nat) (p : BP) (X : Nat → Prop) (ss : List Ws) (rl : List Nat) (F : Nat → Nat → Bool) (sv rv : Value) (R : Nat) (f : Value → Option Value) (FL LL : List (List Nat)) (EL : List Bool) (fl ll : List Value) : Prop where
 ka : KA w p X ss rl F sv rv R f
 rf : RowsV w X FL fl
 rt : RowsV w X LL ll
 of : w.ownsRow B 32 1 p.fv fl.length fl
 ol : w.ownsRow B 32 1 p.lv ll.length ll
 em : w.ownsRow B 4 1 p.ev R (EL.map .bool)
 ne : ∀ q, p.fv.ownBlock = some q → p.lv.ownBlock ≠ some q
 xB : ∀ i, X i → B ≤ i
 sB : B ≤ w.heap.size
theorem Bd.nx {w : World} {p : BP} {X : Nat → Prop} {ss : List Ws} {rl : List Nat} {F : Nat → Nat → Bool} {sv rv : Value} (h : Bd w p X ss rl F sv rv) {q t : Nat} {cs : Array Value} (hq : w.heap[q]? = some (.cells cs t (0, 0))) (ht : ¬ XT t) : ¬ X q := fun hX => by
 obtain ⟨cs', t', h1, h2⟩ := h.xt q hX
 rw [hq] at h1
 injection h1 with h1
 injection h1 with _ h1 _
 exact ht (h1 ▸ h2)
theorem Mc.below {w w' : World} {B : Nat} {p : BP} {X : Nat → Prop} {ss : List Ws} {rl : List Nat} {F : Nat → Nat → Bool} {sv rv : Value} {R : Nat} {f : Value → Option Value} {FL LL : List (List Nat)} {EL : List Bool} {fl ll : List Value} (h : Mc w B p X ss rl F sv rv R f FL LL EL fl ll) (hb : Below w.heap.size w w') : Mc w' B p X ss rl F sv rv R f FL LL EL fl ll :=
 ⟨h.ka.below hb, h.rf.kb (Kb.of_below (fun _ => False) hb) (fun _ _ _ h => h.elim), h.rt.kb (Kb.of_below (fun _ => False) hb) (fun _ _ _ h => h.elim), own_below h.of hb, own_below h.ol hb, own_below h.em hb, h.ne, h.xB, Nat.le_trans h.sB hb.size⟩
theorem Mc.know {w w' : World} {B : Nat} {p : BP} {X : Nat → Prop} {ss : List Ws} {rl : List Nat} {F F' : Nat → Nat → Bool} {sv rv : Value} {R : Nat} {f : Value → Option Value} {FL LL : List (List Nat)} {EL : List Bool} {fl ll : List Value} {r : Rx} {β : Bool} {e : Ending} (h : Mc w B p X ss rl F sv rv R f FL LL EL fl ll) (hk : KnTo w p X ss rl R r F' β e w') :
  ∃ (X' : Nat → Prop) (fo lo : Option Nat) (sv' rv' : Value), e = .returned (.agg #[.map fo, .map lo, .bool β]) ∧ Mc w' B p X' (ss ++ r.sts) (rl ++ List.replicate r.cnt R) F' sv' rv' R f FL LL EL fl ll ∧ PsO w' fo (r.fst ss.length) ∧ PsO w' lo (r.lst ss.length) ∧ Below B w w' := by
 obtain ⟨X', fo, lo, sv', rv', rfl, hbd, pf, pl, nf, nl, hq, dj, kb, hxx⟩ := hk
 refine ⟨X', fo, lo, sv', rv', rfl, ⟨⟨hbd, h.ka.kh.kb h.ka.bd kb, ?_, h.ka.cnt, h.ka.ev⟩, ?_, ?_, ?_, ?_, ?_, h.ne, fun i hi => ?_, Nat.le_trans h.sB kb.size⟩, pf, pl, kb.below h.sB h.xB⟩
 ·rw [List.length_append, List.length_append, List.length_replicate, r.sts_len, h.ka.lens]
 ·have h1 := (h.rf.x hxx)
  exact ⟨h1.1, fun i l hl => by
   obtain ⟨v, a1, a2, a3⟩ := h.rf.2 i l hl
   exact ⟨v, a1, own_kb a2 kb a3, fun q hq e => by
    obtain ⟨_, cs, a4⟩ := own_ty a2 hq
    exact a3 q hq (hxx q (lt_of_heap a4) e)⟩⟩
 ·exact ⟨h.rt.1, fun i l hl => by
   obtain ⟨v, a1, a2, a3⟩ := h.rt.2 i l hl
   exact ⟨v, a1, own_kb a2 kb a3, fun q hq e => by
    obtain ⟨_, cs, a4⟩ := own_ty a2 hq
    exact a3 q hq (hxx q (lt_of_heap a4) e)⟩⟩
 ·exact own_kb h.of kb (fun q hq => by obtain ⟨_, cs, a4⟩ := own_ty h.of hq; exact h.ka.bd.nx a4 (by unfold XT; decide))
 ·exact own_kb h.ol kb (fun q hq => by obtain ⟨_, cs, a4⟩ := own_ty h.ol hq; exact h.ka.bd.nx a4 (by unfold XT; decide))
 ·exact own_kb h.em kb (fun q hq => by obtain ⟨_, cs, a4⟩ := own_ty h.em hq; exact h.ka.bd.nx a4 (by unfold XT; decide))
 ·rcases Nat.lt_or_ge i w.heap.size with h1 | h1
  ·exact h.xB i (hxx i h1 hi)
  ·have := h.sB; omega

theorem Mc.pushF {w wa w6 : World} {B : Nat} {p : BP} {X : Nat → Prop} {ss : List Ws} {rl : List Nat} {F : Nat → Nat → Bool} {sv rv : Value} {R : Nat} {f : Value → Option Value} {FL LL : List (List Nat)} {EL : List Bool} {fl ll : List Value} {l : List Nat} {v : Value} {gg cap n1 : Nat} (h : Mc w B p X ss rl F sv rv R f FL LL EL fl ll) (hb : Below w.heap.size w wa)
  (hrow : wa.ownsRow w.heap.size 3 1 v l.length (l.map pv)) (hown : w6.ownsRow B 32 1 (.slice (some ⟨gg, 0, none⟩) n1 cap) n1 (fl ++ [v])) (hn1 : n1 = fl.length + 1) (hg : wa.grownBy w6 p.fv.ownBlock) (hat : p.fv.ownBlock = some gg ∨ wa.heap.size ≤ gg) :
  Mc (w6.setCell ⟨p.mb, 3, none⟩ (.slice (some ⟨gg, 0, none⟩) n1 cap)) B { p with fv := .slice (some ⟨gg, 0, none⟩) n1 cap } X ss rl F sv rv R f (FL ++ [l]) LL EL (fl ++ [v]) ll ∧ Below B w (w6.setCell ⟨p.mb, 3, none⟩ (.slice (some ⟨gg, 0, none⟩) n1 cap)) ∧ Kb (fun i => some i = p.fv.ownBlock ∨ i = p.mb) w (w6.setCell ⟨p.mb, 3, none⟩ (.slice (some ⟨gg, 0, none⟩) n1 cap)) := by
 have hA := h.below hb
 have hkg := Kb.of_grown hg
 have tf : ∀ i, some i = p.fv.ownBlock → B ≤ i ∧ ∃ cs, wa.heap[i]? = some (.cells cs 32 (0, 0)) := fun i e => own_ty hA.of e.symm
 have bd6 := hA.ka.bd.kbt hkg (fun i e => by obtain ⟨_, cs, h1⟩ := tf i e; exact ⟨cs, 32, _, h1, by decide⟩)
 have s2 := (bd6.stays 3 (.slice (some ⟨gg, 0, none⟩) n1 cap)).2.2.2.2.2.1
 have mw := hA.ka.bd.mach
 have kk : Kb (fun i => some i = p.fv.ownBlock ∨ i = p.mb) wa (w6.setCell ⟨p.mb, 3, none⟩ (.slice (some ⟨gg, 0, none⟩) n1 cap)) := (hkg.wider (fun i h => .inl h)).trans s2 (fun i _ h => .inr h)
 have ty : ∀ i, (some i = p.fv.ownBlock ∨ i = p.mb) → ∃ cs t, wa.heap[i]? = some (.cells cs t (0, 0)) ∧ (t = 32 ∨ t = 79) := fun i hi => by
  rcases hi with hi | rfl
  ·obtain ⟨_, cs, h1⟩ := tf i hi
   exact ⟨cs, 32, h1, .inl rfl⟩
  ·exact ⟨_, 79, mw, .inr rfl⟩
 have n3 : ∀ i cs t fz, (some i = p.fv.ownBlock ∨ i = p.mb) → wa.heap[i]? = some (.cells cs t fz) → t = 32 ∨ t = 79 := fun i cs t fz hi h1 => by
  obtain ⟨cs', t', h2, h3⟩ := ty i hi
  rw [h1] at h2
  injection h2 with h2
  injection h2 with _ h2 _
  rw [h2]; exact h3
 obtain ⟨_, cg, hgg⟩ := own_ty hown (g := gg) rfl
 have hkn : KN wa (w6.setCell ⟨p.mb, 3, none⟩ (.slice (some ⟨gg, 0, none⟩) n1 cap)) := kk.kn (fun i hi cs t fz h1 => by
  rcases n3 i cs t fz hi h1 with h | h <;> rw [h] <;> decide)
 obtain ⟨es, clk, hgb⟩ := hA.ka.kh.isMap
 have hgb' := kk.block _ (lt_of_heap hgb) (fun e => by obtain ⟨cs, t, h1, _⟩ := ty _ e; rw [hgb] at h1; cases h1)
 refine ⟨⟨⟨bd6.setF _, hA.ka.kh.keep hgb' hkn, hA.ka.lens, hA.ka.cnt, hA.ka.ev⟩, ?_, hA.rt.kb kk (fun i cs fz e h1 => by rcases n3 i cs 3 fz e h1 with h | h <;> exact absurd h (by decide)), ?_, own_kb hA.ol kk ?_, own_kb hA.em kk ?_, ?_, h.xB, Nat.le_trans hA.sB kk.size⟩, ?_, (Kb.of_below _ hb).trans kk (fun _ _ h => h)⟩
 ·refine (hA.rf.kb kk (fun i cs fz e h1 => by rcases n3 i cs 3 fz e h1 with h | h <;> exact absurd h (by decide))).snoc (own_base (own_kb hrow kk ?_) (Nat.zero_le _)) ?_
  ·intro q hq e
   obtain ⟨_, cs, h1⟩ := own_ty hrow hq
   rcases n3 q cs 3 _ e h1 with h | h <;> exact absurd h (by decide)
  ·intro q hq hX
   obtain ⟨h1, _⟩ := own_ty hrow hq
   have := h.ka.bd.xl q hX
   omega
 ·rw [List.length_append, List.length_singleton, ← hn1]
  refine own_kb hown s2 (fun q hq e => ?_)
  have hq' : gg = q := by simpa [Value.ownBlock] using hq
  rw [hq', e, bd6.mach] at hgg; cases hgg
 ·intro q hq e
  rcases e with e | e
  ·exact h.ne q e.symm hq
  ·obtain ⟨_, cs, h1⟩ := own_ty hA.ol hq
   rw [e, mw] at h1; cases h1
 ·intro q hq e
  obtain ⟨_, cs, h1⟩ := own_ty hA.em hq
  rcases n3 q cs 4 _ e h1 with h | h <;> exact absurd h (by decide)
 ·intro q hq e
  have hq' : gg = q := by simpa [Value.ownBlock] using hq
  rcases hat with h1 | h1
  ·exact h.ne gg h1 (by rw [hq']; exact e)
  ·obtain ⟨_, cs, h2⟩ := own_ty hA.ol e
   have := lt_of_heap h2
   omega
 ·exact (hb.mono h.sB).trans (kk.below (Nat.le_trans h.sB hb.size) (fun i hi => by
   rcases hi with hi | rfl
   ·exact (tf i hi).1
   ·exact h.xB _ h.ka.bd.xm))

theorem Mc.pushL {w wa w6 : World} {B : Nat} {p : BP} {X : Nat → Prop} {ss : List Ws} {rl : List Nat} {F : Nat → Nat → Bool} {sv rv : Value} {R : Nat} {f : Value → Option Value} {FL LL : List (List Nat)} {EL : List Bool} {fl ll : List Value} {l : List Nat} {v : Value} {gg cap n1 : Nat} (h : Mc w B p X ss rl F sv rv R f FL LL EL fl ll) (hb : Below w.heap.size w wa)
  (hrow : wa.ownsRow w.heap.size 3 1 v l.length (l.map pv)) (hown : w6.ownsRow B 32 1 (.slice (some ⟨gg, 0, none⟩) n1 cap) n1 (ll ++ [v])) (hn1 : n1 = ll.length + 1) (hg : wa.grownBy w6 p.lv.ownBlock) (hat : p.lv.ownBlock = some gg ∨ wa.heap.size ≤ gg) :
  Mc (w6.setCell ⟨p.mb, 4, none⟩ (.slice (some ⟨gg, 0, none⟩) n1 cap)) B { p with lv := .slice (some ⟨gg, 0, none⟩) n1 cap } X ss rl F sv rv R f FL (LL ++ [l]) EL fl (ll ++ [v]) ∧ Below B w (w6.setCell ⟨p.mb, 4, none⟩ (.slice (some ⟨gg, 0, none⟩) n1 cap)) ∧ Kb (fun i => some i = p.lv.ownBlock ∨ i = p.mb) w (w6.setCell ⟨p.mb, 4, none⟩ (.slice (some ⟨gg, 0, none⟩) n1 cap)) := by
 have hA := h.below hb
 have hkg := Kb.of_grown hg
 have tf : ∀ i, some i = p.lv.ownBlock → B ≤ i ∧ ∃ cs, wa.heap[i]? = some (.cells cs 32 (0, 0)) := fun i e => own_ty hA.ol e.symm
 have bd6 := hA.ka.bd.kbt hkg (fun i e => by obtain ⟨_, cs, h1⟩ := tf i e; exact ⟨cs, 32, _, h1, by decide⟩)
 have s2 := (bd6.stays 4 (.slice (some ⟨gg, 0, none⟩) n1 cap)).2.2.2.2.2.1
 have mw := hA.ka.bd.mach
 have kk : Kb (fun i => some i = p.lv.ownBlock ∨ i = p.mb) wa (w6.setCell ⟨p.mb, 4, none⟩ (.slice (some ⟨gg, 0, none⟩) n1 cap)) := (hkg.wider (fun i h => .inl h)).trans s2 (fun i _ h => .inr h)
 have ty : ∀ i, (some i = p.lv.ownBlock ∨ i = p.mb) → ∃ cs t, wa.heap[i]? = some (.cells cs t (0, 0)) ∧ (t = 32 ∨ t = 79) := fun i hi => by
  rcases hi with hi | rfl
  ·obtain ⟨_, cs, h1⟩ := tf i hi
   exact ⟨cs, 32, h1, .inl rfl⟩
  ·exact ⟨_, 79, mw, .inr rfl⟩
 have n3 : ∀ i cs t fz, (some i = p.lv.ownBlock ∨ i = p.mb) → wa.heap[i]? = some (.cells cs t fz) → t = 32 ∨ t = 79 := fun i cs t fz hi h1 => by
  obtain ⟨cs', t', h2, h3⟩ := ty i hi
  rw [h1] at h2
  injection h2 with h2
  injection h2 with _ h2 _
  rw [h2]; exact h3
 obtain ⟨_, cg, hgg⟩ := own_ty hown (g := gg) rfl
 have hkn : KN wa (w6.setCell ⟨p.mb, 4, none⟩ (.slice (some ⟨gg, 0, none⟩) n1 cap)) := kk.kn (fun i hi cs t fz h1 => by
  rcases n3 i cs t fz hi h1 with h | h <;> rw [h] <;> decide)
 obtain ⟨es, clk, hgb⟩ := hA.ka.kh.isMap
 have hgb' := kk.block _ (lt_of_heap hgb) (fun e => by obtain ⟨cs, t, h1, _⟩ := ty _ e; rw [hgb] at h1; cases h1)
 refine ⟨⟨⟨bd6.setL _, hA.ka.kh.keep hgb' hkn, hA.ka.lens, hA.ka.cnt, hA.ka.ev⟩, hA.rf.kb kk (fun i cs fz e h1 => by rcases n3 i cs 3 fz e h1 with h | h <;> exact absurd h (by decide)), ?_, own_kb hA.of kk ?_, ?_, own_kb hA.em kk ?_, ?_, h.xB, Nat.le_trans hA.sB kk.size⟩, ?_, (Kb.of_below _ hb).trans kk (fun _ _ h => h)⟩
 ·refine (hA.rt.kb kk (fun i cs fz e h1 => by rcases n3 i cs 3 fz e h1 with h | h <;> exact absurd h (by decide))).snoc (own_base (own_kb hrow kk ?_) (Nat.zero_le _)) ?_
  ·intro q hq e
   obtain ⟨_, cs, h1⟩ := own_ty hrow hq
   rcases n3 q cs 3 _ e h1 with h | h <;> exact absurd h (by decide)
  ·intro q hq hX
   obtain ⟨h1, _⟩ := own_ty hrow hq
   have := h.ka.bd.xl q hX
   omega
 ·intro q hq e
  rcases e with e | e
  ·exact h.ne q hq e.symm
  ·obtain ⟨_, cs, h1⟩ := own_ty hA.of hq
   rw [e, mw] at h1; cases h1
 ·rw [List.length_append, List.length_singleton, ← hn1]
  refine own_kb hown s2 (fun q hq e => ?_)
  have hq' : gg = q := by simpa [Value.ownBlock] using hq
  rw [hq', e, bd6.mach] at hgg; cases hgg
 ·intro q hq e
  obtain ⟨_, cs, h1⟩ := own_ty hA.em hq
  rcases n3 q cs 4 _ e h1 with h | h <;> exact absurd h (by decide)
 ·intro q hq e
  have hq' : gg = q := by simpa [Value.ownBlock] using e
  rcases hat with h1 | h1
  ·exact h.ne q hq (by rw [← hq']; exact h1)
  ·obtain ⟨_, cs, h2⟩ := own_ty hA.of hq
   have := lt_of_heap h2
   omega
 ·exact (hb.mono h.sB).trans (kk.below (Nat.le_trans h.sB hb.size) (fun i hi => by
   rcases hi with hi | rfl
   ·exact (tf i hi).1
   ·exact h.xB _ h.ka.bd.xm))

theorem Mc.pushE {w wa w6 : World} {B : Nat} {p : BP} {X : Nat → Prop} {ss : List Ws} {rl : List Nat} {F : Nat → Nat → Bool} {sv rv : Value} {R : Nat} {f : Value → Option Value} {FL LL : List (List Nat)} {EL : List Bool} {fl ll : List Value} {β : Bool} {gg cap n1 : Nat} (h : Mc w B p X ss rl F sv rv R f FL LL EL fl ll) (hb : Below w.heap.size w wa)
  (hown : w6.ownsRow B 4 1 (.slice (some ⟨gg, 0, none⟩) n1 cap) n1 (EL.map .bool ++ [.bool β])) (hn1 : n1 = R + 1) (hg : wa.grownBy w6 p.ev.ownBlock) :
  Mc (w6.setCell ⟨p.mb, 5, none⟩ (.slice (some ⟨gg, 0, none⟩) n1 cap)) B { p with ev := .slice (some ⟨gg, 0, none⟩) n1 cap } X ss rl F sv rv (R + 1) f FL LL (EL ++ [β]) fl ll ∧ Below B w (w6.setCell ⟨p.mb, 5, none⟩ (.slice (some ⟨gg, 0, none⟩) n1 cap)) := by
 have hA := h.below hb
 have hkg := Kb.of_grown hg
 have tf : ∀ i, some i = p.ev.ownBlock → B ≤ i ∧ ∃ cs, wa.heap[i]? = some (.cells cs 4 (0, 0)) := fun i e => own_ty hA.em e.symm
 have bd6 := hA.ka.bd.kbt hkg (fun i e => by obtain ⟨_, cs, h1⟩ := tf i e; exact ⟨cs, 4, _, h1, by decide⟩)
 have s2 := (bd6.stays 5 (.slice (some ⟨gg, 0, none⟩) n1 cap)).2.2.2.2.2.1
 have mw := hA.ka.bd.mach
 have kk : Kb (fun i => some i = p.ev.ownBlock ∨ i = p.mb) wa (w6.setCell ⟨p.mb, 5, none⟩ (.slice (some ⟨gg, 0, none⟩) n1 cap)) := (hkg.wider (fun i h => .inl h)).trans s2 (fun i _ h => .inr h)
 have ty : ∀ i, (some i = p.ev.ownBlock ∨ i = p.mb) → ∃ cs t, wa.heap[i]? = some (.cells cs t (0, 0)) ∧ (t = 4 ∨ t = 79) := fun i hi => by
  rcases hi with hi | rfl
  ·obtain ⟨_, cs, h1⟩ := tf i hi
   exact ⟨cs, 4, h1, .inl rfl⟩
  ·exact ⟨_, 79, mw, .inr rfl⟩
 have n3 : ∀ i cs t fz, (some i = p.ev.ownBlock ∨ i = p.mb) → wa.heap[i]? = some (.cells cs t fz) → t = 4 ∨ t = 79 := fun i cs t fz hi h1 => by
  obtain ⟨cs', t', h2, h3⟩ := ty i hi
  rw [h1] at h2
  injection h2 with h2
  injection h2 with _ h2 _
  rw [h2]; exact h3
 obtain ⟨_, cg, hgg⟩ := own_ty hown (g := gg) rfl
 have hkn : KN wa (w6.setCell ⟨p.mb, 5, none⟩ (.slice (some ⟨gg, 0, none⟩) n1 cap)) := kk.kn (fun i hi cs t fz h1 => by
  rcases n3 i cs t fz hi h1 with h | h <;> rw [h] <;> decide)
 obtain ⟨es, clk, hgb⟩ := hA.ka.kh.isMap
 have hgb' := kk.block _ (lt_of_heap hgb) (fun e => by obtain ⟨cs, t, h1, _⟩ := ty _ e; rw [hgb] at h1; cases h1)
 refine ⟨⟨⟨bd6.setE _, hA.ka.kh.keep hgb' hkn, hA.ka.lens, hA.ka.cnt, ⟨_, _, by rw [hn1]⟩⟩, hA.rf.kb kk (fun i cs fz e h1 => by rcases n3 i cs 3 fz e h1 with h | h <;> exact absurd h (by decide)), hA.rt.kb kk (fun i cs fz e h1 => by rcases n3 i cs 3 fz e h1 with h | h <;> exact absurd h (by decide)), own_kb hA.of kk ?_, own_kb hA.ol kk ?_, ?_, h.ne, h.xB, Nat.le_trans hA.sB kk.size⟩, ?_⟩
 ·intro q hq e
  obtain ⟨_, cs, h1⟩ := own_ty hA.of hq
  rcases n3 q cs 32 _ e h1 with h | h <;> exact absurd h (by decide)
 ·intro q hq e
  obtain ⟨_, cs, h1⟩ := own_ty hA.ol hq
  rcases n3 q cs 32 _ e h1 with h | h <;> exact absurd h (by decide)
 ·rw [List.map_append, ← hn1]
  refine own_kb hown s2 (fun q hq e => ?_)
  have hq' : gg = q := by simpa [Value.ownBlock] using hq
  rw [hq', e, bd6.mach] at hgg; cases hgg
 ·exact (hb.mono h.sB).trans (kk.below (Nat.le_trans h.sB hb.size) (fun i hi => by
   rcases hi with hi | rfl
   ·exact (tf i hi).1
   ·exact h.xB _ h.ka.bd.xm))

theorem Mc.keepF {w w' : World} {B : Nat} {p : BP} {X : Nat → Prop} {ss : List Ws} {rl : List Nat} {F : Nat → Nat → Bool} {sv rv : Value} {R : Nat} {f : Value → Option Value} {FL LL : List (List Nat)} {EL : List Bool} {fl ll : List Value} (h : Mc w B p X ss rl F sv rv R f FL LL EL fl ll) (k : Kb (fun i => some i = p.fv.ownBlock ∨ i = p.mb) w w') :
  (∀ (b : Nat) (cs : Array Value), w.heap[b]? = some (.cells cs 142 (0, 0)) → w'.heap[b]? = some (.cells cs 142 (0, 0))) ∧ ∀ (o : Option Nat) (l : List Nat), PsO w o l → PsO w' o l := by
 have ty : ∀ i, (some i = p.fv.ownBlock ∨ i = p.mb) → ∃ cs t, w.heap[i]? = some (.cells cs t (0, 0)) ∧ (t = 32 ∨ t = 79) := fun i hi => by
  rcases hi with hi | rfl
  ·obtain ⟨_, cs, h1⟩ := own_ty h.of hi.symm
   exact ⟨cs, 32, h1, .inl rfl⟩
  ·exact ⟨_, 79, h.ka.bd.mach, .inr rfl⟩
 refine ⟨fun b cs hb => (k.block b (lt_of_heap hb) (fun e => ?_)).trans hb, fun o l hp => hp.keepc k (fun i hi => ?_)⟩
 ·obtain ⟨cs', t, h1, h2⟩ := ty b e
  rw [hb] at h1
  injection h1 with h1
  injection h1 with _ h1 _
  rw [← h1] at h2
  revert h2; decide
 ·obtain ⟨cs', t, h1, _⟩ := ty i hi
  exact ⟨cs', t, _, h1⟩

theorem Mc.keepL {w w' : World} {B : Nat} {p : BP} {X : Nat → Prop} {ss : List Ws} {rl : List Nat} {F : Nat → Nat → Bool} {sv rv : Value} {R : Nat} {f : Value → Option Value} {FL LL : List (List Nat)} {EL : List Bool} {fl ll : List Value} (h : Mc w B p X ss rl F sv rv R f FL LL EL fl ll) (k : Kb (fun i => some i = p.lv.ownBlock ∨ i = p.mb) w w') :
  (∀ (b : Nat) (cs : Array Value), w.heap[b]? = some (.cells cs 142 (0, 0)) → w'.heap[b]? = some (.cells cs 142 (0, 0))) ∧ ∀ (o : Option Nat) (l : List Nat), PsO w o l → PsO w' o l := by
 have ty : ∀ i, (some i = p.lv.ownBlock ∨ i = p.mb) → ∃ cs t, w.heap[i]? = some (.cells cs t (0, 0)) ∧ (t = 32 ∨ t = 79) := fun i hi => by
  rcases hi with hi | rfl
  ·obtain ⟨_, cs, h1⟩ := own_ty h.ol hi.symm
   exact ⟨cs, 32, h1, .inl rfl⟩
  ·exact ⟨_, 79, h.ka.bd.mach, .inr rfl⟩
 refine ⟨fun b cs hb => (k.block b (lt_of_heap hb) (fun e => ?_)).trans hb, fun o l hp => hp.keepc k (fun i hi => ?_)⟩
 ·obtain ⟨cs', t, h1, h2⟩ := ty b e
  rw [hb] at h1
  injection h1 with h1
  injection h1 with _ h1 _
  rw [← h1] at h2
  revert h2; decide
 ·obtain ⟨cs', t, h1, _⟩ := ty i hi
  exact ⟨cs', t, _, h1⟩
end Go.Proofs.YtejdfpieblkapaaGreatDoor

/- add: an expression more. -/
namespace Go.Proofs.YtejdfpieblkapaaGreatDoor
open Lib renaming hid → zh
open List renaming getElem_toArray → w1z, getElem_cons_zero → w2z, getElem_cons_succ → w3z, setIfInBounds_toArray → w4z, set_cons_zero → w5z, set_cons_succ → w6z
open Go.RowKit Go.Shelf

theorem Tryz.info32 : (Tryz.prog.info? 32).map (fun i => (i.zero, i.size, i.bytes)) = some (some (.slice none 0 0), 1, 24) := by kernel_rfl
theorem Tryz.info4g : (Tryz.prog.info? 4).map (fun i => (i.zero, i.size, i.bytes)) = some (some (.bool false), 1, 1) := by kernel_rfl
theorem PsO.below {w w' : World} {o : Option Nat} {l : List Nat} (h : PsO w o l) (hb : Below w.heap.size w w') : PsO w' o l := h.keepc (Kb.of_below (fun _ => False) hb) (fun _ h => h.elim)
def AddTo (w : World) (B : Nat) (p : BP) (ss : List Ws) (rl : List Nat) (F : Nat → Nat → Bool) (R : Nat) (f : Value → Option Value) (FL LL : List (List Nat)) (EL : List Bool) (r : Rx) (w' : World) : Prop :=
 ∃ (p' : BP) (X' : Nat → Prop) (sv' rv' : Value) (fl' ll' : List Value), Mc w' B p' X' (ss ++ r.sts) (rl ++ List.replicate r.cnt R) (fun x y => F x y || r.fol ss.length x y) sv' rv' (R + 1) f (FL ++ [r.fst ss.length]) (LL ++ [r.lst ss.length]) (EL ++ [r.nul]) fl' ll' ∧ p'.bb = p.bb ∧ p'.mb = p.mb ∧ p'.gb = p.gb ∧ p'.cnt = p.cnt ∧ p'.A = p.A ∧ p'.c = p.c ∧ p'.gs = p.gs ∧ Below B w w'
theorem Bd.cell {w : World} {p : BP} {X : Nat → Prop} {ss : List Ws} {rl : List Nat} {F : Nat → Nat → Bool} {sv rv : Value} (h : Bd w p X ss rl F sv rv) : w.cell? ⟨p.bb, 0, none⟩ = some (ptr p.mb) ∧ w.cell? ⟨p.mb, 3, none⟩ = some p.fv ∧ w.cell? ⟨p.mb, 4, none⟩ = some p.lv ∧ w.cell? ⟨p.mb, 5, none⟩ = some p.ev := by
 refine ⟨by rw [Lib.cell_of_heap h.bld]; rfl, by rw [Lib.cell_of_heap h.mach]; rfl, by rw [Lib.cell_of_heap h.mach]; rfl, by rw [Lib.cell_of_heap h.mach]; rfl⟩

set_option maxRecDepth 100000 in
set_option maxHeartbeats 8000000 in
theorem add_any (w : World) (B : Nat) (p : BP) (X : Nat → Prop) (ss : List Ws) (rl : List Nat) (F : Nat → Nat → Bool) (sv rv : Value) (R : Nat) (f : Value → Option Value) (FL LL : List (List Nat)) (EL : List Bool) (fl ll : List Value) (r : Rx) (b : Nat) (h : Mc w B p X ss rl F sv rv R f FL LL EL fl ll) (hn : NdAt w r b) (hf : (f (ptr b)).isSome = true) (hcnt : ss.length + r.cnt ≤ p.cnt) (hR : R ≤ 100000) (hFL : FL.length ≤ 100000) (hLL : LL.length ≤ 100000) :
  Calls Tryz.prog 50 #[ptr p.bb, ptr b] w fun e w' => e = .returned (.tuple #[]) ∧ AddTo w B p ss rl F R f FL LL EL r w' := by
 have hK : Calls Tryz.prog 82 #[ptr p.bb, ptr b] w fun e w' => ∃ (X' : Nat → Prop) (fo lo : Option Nat) (sv' rv' : Value), e = .returned (.agg #[.map fo, .map lo, .bool r.nul]) ∧ Mc w' B p X' (ss ++ r.sts) (rl ++ List.replicate r.cnt R) (fun x y => F x y || r.fol ss.length x y) sv' rv' R f FL LL EL fl ll ∧ PsO w' fo (r.fst ss.length) ∧ PsO w' lo (r.lst ss.length) ∧ Below B w w' :=
  (know_any r.size w p X ss rl F sv rv R f r b (Nat.le_refl _) h.ka hn hf hcnt).mono (fun e w' hk => h.know hk)
 have HK := zh hK
 have HAD : Hid (∀ w', (∃ (p' : BP) (X' : Nat → Prop) (sv' rv' : Value) (fl' ll' : List Value), Mc w' B p' X' (ss ++ r.sts) (rl ++ List.replicate r.cnt R) (fun x y => F x y || r.fol ss.length x y) sv' rv' (R + 1) f (FL ++ [r.fst ss.length]) (LL ++ [r.lst ss.length]) (EL ++ [r.nul]) fl' ll' ∧ p'.bb = p.bb ∧ p'.mb = p.mb ∧ p'.gb = p.gb ∧ p'.cnt = p.cnt ∧ p'.A = p.A ∧ p'.c = p.c ∧ p'.gs = p.gs ∧ Below B w w') → AddTo w B p ss rl F R f FL LL EL r w') := zh (fun _ h => h)
 obtain ⟨PO, hPO⟩ : ∃ PO, PO = AddTo w B p ss rl F R f FL LL EL r := ⟨_, rfl⟩
 rw [← hPO] at HAD ⊢
 have hfl := h.rf.1
 have hll := h.rt.1
 have HSM := zh (show fl.length ≤ 100000 ∧ ll.length ≤ 100000 ∧ R ≤ 100000 ∧ r.cnt ≤ 2000 ∧ ss.length + r.cnt ≤ 2000 from by have := h.ka.cnt; omega)
 have HUF := zh (r.fst_up ss.length)
 have HUL := zh (r.lst_up ss.length)
 obtain ⟨i0, hi0, hz0, hz1, hz2⟩ := info_parts Tryz.info32
 have HI := zh hi0; have HZ0 := zh hz0; have HZ1 := zh hz1; have HZ2 := zh hz2
 obtain ⟨i1, hj0, hy0, hy1, hy2⟩ := info_parts Tryz.info4g
 have HJ := zh hj0; have HY0 := zh hy0; have HY1 := zh hy1; have HY2 := zh hy2
 obtain ⟨Ff, hFf⟩ : ∃ Ff, Ff = (fun x y => F x y || r.fol ss.length x y) := ⟨_, rfl⟩
 rw [← hFf] at HAD HK
 obtain ⟨nF, hnF⟩ : ∃ nF, nF = r.fst ss.length := ⟨_, rfl⟩
 obtain ⟨nL, hnL⟩ : ∃ nL, nL = r.lst ss.length := ⟨_, rfl⟩
 rw [← hnF] at HAD HK HUF
 rw [← hnL] at HAD HK HUL
 obtain ⟨β, hβ⟩ : ∃ β, β = r.nul := ⟨_, rfl⟩
 rw [← hβ] at HAD HK
 have HBs := zh h.sB
 clear hPO hfl hll hi0 hz0 hz1 hz2 hj0 hy0 hy1 hy2 hFf hnF hnL hβ h hn hf hcnt hR hFL hLL hK
 obtain ⟨bb, mb, gb, cnt, A, c, fv, lv, ev, gs⟩ := p
 simp only at HAD ⊢
 go_enter Tryz.func50, Tryz.ntmps50
 go_wp2_with fail
 refine HK.out.mono ?_
 rintro e w2 ⟨X2, fo, lo, sv2, rv2, rfl, hm2, pf2, pl2, hb2⟩
 have hal := (Below.refl _ w2).alloc (Nat.le_refl _) (.cells #[.map fo, .map lo, .bool β] 142)
 have HM := zh (hm2.below hal)
 have HBOX := zh (heap_alloc_new w2 (.cells #[.map fo, .map lo, .bool β] 142))
 have HPF := zh (pf2.below hal)
 have HPL := zh (pl2.below hal)
 have HBW := zh (hb2.trans (hal.mono hm2.sB))
 clear hal hm2 pf2 pl2 hb2 HK
 go_wp2_with fail
 generalize w2.alloc (.cells #[.map fo, .map lo, .bool β] 142) = w3 at HM HBOX HPF HPL HBW ⊢
 obtain ⟨b4, hb4⟩ : ∃ b4, b4 = w2.heap.size := ⟨_, rfl⟩
 rw [← hb4] at HBOX ⊢
 clear hb4
 obtain ⟨Af, cf, e1, hcf1, hcf2⟩ := own_form HM.out.of
 simp only at e1
 subst e1
 obtain ⟨Al, cl, e1, hcl1, hcl2⟩ := own_form HM.out.ol
 simp only at e1
 subst e1
 obtain ⟨Ae, ce, e1, hce1, hce2⟩ := own_form HM.out.em
 simp only at e1
 subst e1
 obtain ⟨nf, hnf⟩ : ∃ nf, nf = fl.length := ⟨_, rfl⟩
 obtain ⟨nl, hnl⟩ : ∃ nl, nl = ll.length := ⟨_, rfl⟩
 rw [← hnf] at HM hcf1
 rw [← hnl] at HM hcl1
 rw [← hnf, ← hnl] at HSM
 have HNF := zh hnf; have HNL := zh hnl
 clear hnf hnl
 have d0 : w3.cell? ⟨bb, 0, none⟩ = some (ptr mb) := HM.out.ka.bd.cell.1
 have d1 : w3.cell? ⟨mb, 3, none⟩ = some (.slice Af nf cf) := HM.out.ka.bd.cell.2.1
 have d2 : w3.cell? ⟨b4, 0, none⟩ = some (.map fo) := by rw [Lib.cell_of_heap HBOX.out]; rfl
 refine wp_region_k 19 (fun w' => w'.cell? ⟨bb, 0, none⟩ = some (ptr mb) ∧ w'.cell? ⟨mb, 3, none⟩ = some (.slice Af nf cf) ∧ w'.cell? ⟨b4, 0, none⟩ = some (.map fo)) (by kernel_rfl) (⟨d0, d1, d2⟩) ?_
 intro hS
 change wpAnyK _ _ _ _ _ _ 20 (Array.replicate 20 false) _ (World.drew _)
 have HMD := zh (HM.out.below ((Below.refl _ w3).drew))
 have HPD := zh (HPF.out.below ((Below.refl _ w3).drew))
 have HBD := zh ((Below.refl w3.heap.size w3).drew)
 have HBX := zh (show (w3.drew).heap[b4]? = _ from HBOX.out)
 generalize w3.drew = wd at HMD HPD HBD HBX hS ⊢
 refine wpAnyK_take (i := 0) (v := ?_) rfl (by kernel_rfl) (by kernel_rfl) (by kernel_rfl) (by kernel_rfl) (fun _ _ _ h => h) (Or.inl ⟨by rfl, ?_⟩) hS ?_
 rotate_left 1
 ·intro wq _; go_simp; (try with_reducible rfl)
 try simp only [Act.put, w1z, w2z, w4z, w5z, w6z]
 refine wpAnyK_take (i := 1) (v := ?_) rfl (by kernel_rfl) (by kernel_rfl) (by kernel_rfl) (by kernel_rfl) (fun _ _ _ h => h) (Or.inl ⟨by rfl, ?_⟩) hS ?_
 rotate_left 1
 ·intro wq _; go_simp; (try with_reducible rfl)
 try simp only [Act.put, w1z, w2z, w3z, w4z, w5z, w6z]
 refine wpAnyK_take (i := 2) (v := ?_) rfl (by kernel_rfl) (by kernel_rfl) (by kernel_rfl) (by kernel_rfl) (fun _ _ _ h => h) (Or.inl ⟨by rfl, ?_⟩) hS ?_
 rotate_left 1
 ·intro wq _; go_simp; (try with_reducible rfl)
 try simp only [Act.put, w1z, w2z, w3z, w4z, w5z, w6z]
 refine wpAnyK_take (i := 3) (v := ?_) rfl (by kernel_rfl) (by kernel_rfl) (by kernel_rfl) (by kernel_rfl) (fun _ _ _ h => h) (Or.inl ⟨by rfl, ?_⟩) hS ?_
 rotate_left 1
 ·intro wq hq; obtain ⟨q1, q2, q3⟩ := hq; go_simp; (try with_reducible rfl)
 try simp only [Act.put, w1z, w2z, w3z, w4z, w5z, w6z]
 refine wpAnyK_take (i := 4) (v := ?_) rfl (by kernel_rfl) (by kernel_rfl) (by kernel_rfl) (by kernel_rfl) (fun _ _ _ h => h) (Or.inl ⟨by rfl, ?_⟩) hS ?_
 rotate_left 1
 ·intro wq _; go_simp; (try with_reducible rfl)
 try simp only [Act.put, w1z, w2z, w3z, w4z, w5z, w6z]
 refine wpAnyK_take (i := 5) (v := ?_) rfl (by kernel_rfl) (by kernel_rfl) (by kernel_rfl) (by kernel_rfl) (fun _ _ _ h => h) (Or.inl ⟨by rfl, ?_⟩) hS ?_
 rotate_left 1
 ·intro wq _; go_simp; (try with_reducible rfl)
 try simp only [Act.put, w1z, w2z, w3z, w4z, w5z, w6z]
 refine wpAnyK_take (i := 6) (v := ?_) rfl (by kernel_rfl) (by kernel_rfl) (by kernel_rfl) (by kernel_rfl) (fun _ _ _ h => h) (Or.inl ⟨by rfl, ?_⟩) hS ?_
 rotate_left 1
 ·intro wq _; go_simp; (try with_reducible rfl)
 try simp only [Act.put, w1z, w2z, w3z, w4z, w5z, w6z]
 refine wpAnyK_take (i := 7) (v := ?_) rfl (by kernel_rfl) (by kernel_rfl) (by kernel_rfl) (by kernel_rfl) (fun _ _ _ h => h) (Or.inl ⟨by rfl, ?_⟩) hS ?_
 rotate_left 1
 ·intro wq hq; obtain ⟨q1, q2, q3⟩ := hq; go_simp; (try with_reducible rfl)
 try simp only [Act.put, w1z, w2z, w3z, w4z, w5z, w6z]
 refine wpAnyK_take (i := 8) (v := ?_) rfl (by kernel_rfl) (by kernel_rfl) (by kernel_rfl) (by kernel_rfl) (fun _ _ _ h => h) (Or.inl ⟨by rfl, ?_⟩) hS ?_
 rotate_left 1
 ·intro wq _; go_simp; (try with_reducible rfl)
 try simp only [Act.put, w1z, w2z, w3z, w4z, w5z, w6z]
 refine wpAnyK_take (i := 9) (v := ?_) rfl (by kernel_rfl) (by kernel_rfl) (by kernel_rfl) (by kernel_rfl) (fun _ _ _ h => h) (Or.inl ⟨by rfl, ?_⟩) hS ?_
 rotate_left 1
 ·intro wq _; go_simp; (try with_reducible rfl)
 try simp only [Act.put, w1z, w2z, w3z, w4z, w5z, w6z]
 refine wpAnyK_take (i := 10) (v := ?_) rfl (by kernel_rfl) (by kernel_rfl) (by kernel_rfl) (by kernel_rfl) (fun _ _ _ h => h) (Or.inl ⟨by rfl, ?_⟩) hS ?_
 rotate_left 1
 ·intro wq hq; obtain ⟨q1, q2, q3⟩ := hq; go_simp; (try with_reducible rfl)
 try simp only [Act.put, w1z, w2z, w3z, w4z, w5z, w6z]
 refine wpAnyK_take (i := 11) (v := ?_) rfl (by kernel_rfl) (by kernel_rfl) (by kernel_rfl) (by kernel_rfl) (fun _ _ _ h => h) (Or.inl ⟨by rfl, ?_⟩) hS ?_
 rotate_left 1
 ·intro wq _; go_simp; (try with_reducible rfl)
 try simp only [Act.put, w1z, w2z, w3z, w4z, w5z, w6z]
 refine wpAnyK_take (i := 12) (v := ?_) rfl (by kernel_rfl) (by kernel_rfl) (by kernel_rfl) (by kernel_rfl) (fun _ _ _ h => h) (Or.inl ⟨by rfl, ?_⟩) hS ?_
 rotate_left 1
 ·intro wq hq; obtain ⟨q1, q2, q3⟩ := hq; go_simp; (try with_reducible rfl)
 try simp only [Act.put, w1z, w2z, w3z, w4z, w5z, w6z]
 refine wpAnyK_one (i := 13) (by kernel_rfl) rfl (fun K' hK => ?_)
 go_simp
 have HKY := zh (keys_any wd fo)
 go_at_call 84
 refine HKY.out.mono ?_
 rintro e w4 ⟨rfl, rfl⟩
 have hal := (Below.refl _ wd).alloc (Nat.le_refl _) (.cells #[.map fo] 140)
 have HM4 := zh (HMD.out.below hal)
 have HB4 := zh (below_tr HBD.out hal HBD.out.size)
 have HP4 := zh (HPD.out.below hal)
 have hX4 := heap_alloc_new wd (.cells #[.map fo] 140)
 have HX4 := zh hX4
 have HBX4 := zh ((hal.block _ (lt_of_heap HBX.out)).trans HBX.out)
 generalize wd.alloc (.cells #[.map fo] 140) = w4 at HM4 HB4 HP4 HX4 HBX4 hal hX4 ⊢
 clear hal hX4
 obtain ⟨W1, hW1⟩ : ∃ W1, W1 = wd.heap.size := ⟨_, rfl⟩
 rw [← hW1] at HX4 ⊢
 clear hW1
 refine hK.out _ _ (fun _ => ⟨HM4.out.ka.bd.cell.1, HM4.out.ka.bd.cell.2.1, by rw [Lib.cell_of_heap HBX4.out]; rfl⟩) (fun hS => ?_)
 replace hS := hS (by decide)
 clear hK K'
 try simp only [Act.put, w1z, w2z, w3z, w4z, w5z, w6z]
 refine wpAnyK_one (i := 14) (by kernel_rfl) rfl (fun K' hK => ?_)
 go_simp
 have HSO := zh (sorted_o w4 W1 fo nF (by rw [Lib.cell_of_heap HX4.out]; rfl) (lt_of_heap HX4.out) HP4.out (by have := HUF.out.len; have := HSM.out; omega) (fun q hq => by have := HUF.out.2 q hq; have := HSM.out; omega) HUF.out.1)
 go_at_call 83
 refine HSO.out.mono ?_
 rintro e w5 ⟨v, rfl, hrow, hb5⟩
 obtain ⟨Av, cv, rfl, hv1, hv2⟩ := own_form hrow
 have HM5 := zh (HM4.out.below hb5)
 have HB5 := zh (below_tr HB4.out hb5 HB4.out.size)
 have HROW := zh (own_base hrow HB4.out.size)
 have HBX5 := zh ((hb5.block _ (lt_of_heap HBX4.out)).trans HBX4.out)
 clear hb5 hrow HSO
 refine hK.out _ _ (fun _ => ⟨HM5.out.ka.bd.cell.1, HM5.out.ka.bd.cell.2.1, by rw [Lib.cell_of_heap HBX5.out]; rfl⟩) (fun hS => ?_)
 replace hS := hS (by decide)
 clear hK K'
 try simp only [Act.put, w1z, w2z, w3z, w4z, w5z, w6z]
 refine wpAnyK_one (i := 15) (by kernel_rfl) rfl (fun K' hK => ?_)
 go_simp
 have hal := (Below.refl _ w5).alloc (Nat.le_refl _) (.cells #[.slice Av nF.length cv] 32)
 have HM6 := zh (HM5.out.below hal)
 have HB6 := zh (below_tr HB5.out hal HB5.out.size)
 have HROW6 := zh (own_below HROW.out hal)
 have HBX6 := zh ((hal.block _ (lt_of_heap HBX5.out)).trans HBX5.out)
 have HNW := zh (heap_alloc_new w5 (.cells #[.slice Av nF.length cv] 32))
 obtain ⟨W2, hW2⟩ : ∃ W2, w5.heap.size = W2 := ⟨_, rfl⟩
 rw [hW2] at HNW ⊢
 generalize w5.alloc (.cells #[.slice Av nF.length cv] 32) = w6 at HM6 HB6 HROW6 HBX6 HNW hal ⊢
 clear hal hW2
 refine hK.out _ _ (fun _ => ⟨HM6.out.ka.bd.cell.1, HM6.out.ka.bd.cell.2.1, by rw [Lib.cell_of_heap HBX6.out]; rfl⟩) (fun hS => ?_)
 replace hS := hS (by decide)
 clear hK K'
 try simp only [Act.put, w1z, w2z, w3z, w4z, w5z, w6z]
 refine wpAnyK_one (i := 16) (by kernel_rfl) rfl (fun K' hK => ?_)
 refine step_append_lies _ (by rfl) _ _ _ (by rfl) B 32 i0 _ 1 24 Tryz.underlying77 HI.out HZ0.out HZ1.out HZ2.out rfl (by omega) (.slice Af nf cf) nf fl (by rfl) (by have := HM6.out.of; rw [← HNF.out] at this; exact this) ⟨W2, 0, none⟩ 1 1 [.slice Av nF.length cv] (by rfl) (by rfl) (World.news_of_block (cs := #[.slice Av nF.length cv]) (t := 32) (fr := (0, 0)) HNW.out) (by simp [Value.oneCell']) (by omega) (by unfold maxLen; have := HSM.out; omega) (by have := HSM.out; omega) HM6.out.sB w6.heap.size rfl ?_
 intro gg cap6 w7 hown7 hgrow7 hat7 hlt7
 have HPU := zh (HM.out.pushF (n1 := nf + 1) (cap := cap6) HB6.out HROW6.out hown7 (by rw [HNF.out]) hgrow7 (hat7.imp id (fun h => by rw [h]; exact Nat.le_refl _)))
 have HMA7 := zh ((hgrow7.block mb (lt_of_heap HM6.out.ka.bd.mach) (own_not HM6.out.of HM6.out.ka.bd.mach (by decide))).trans HM6.out.ka.bd.mach)
 have HBB7 := zh ((hgrow7.block bb (lt_of_heap HM6.out.ka.bd.bld) (own_not HM6.out.of HM6.out.ka.bd.bld (by decide))).trans HM6.out.ka.bd.bld)
 have HBX7 := zh ((hgrow7.block b4 (lt_of_heap HBX6.out) (own_not HM6.out.of HBX6.out (by decide))).trans HBX6.out)
 clear hown7 hgrow7 hat7 hlt7
 refine hK.out _ _ (fun _ => ⟨by rw [Lib.cell_of_heap HBB7.out]; rfl, by rw [Lib.cell_of_heap HMA7.out]; rfl, by rw [Lib.cell_of_heap HBX7.out]; rfl⟩) (fun hS => ?_)
 replace hS := hS (by decide)
 clear hK K'
 try simp only [Act.put, w1z, w2z, w3z, w4z, w5z, w6z]
 refine wpAnyK_one (i := 17) (by kernel_rfl) rfl (fun K' hK => ?_)
 go_simp
 refine hK.out _ _ (fun _ => hS) (fun hS => ?_)
 replace hS := hS (by decide)
 clear hK K'
 try simp only [Act.put, w1z, w2z, w3z, w4z, w5z, w6z]
 refine wpAnyK_one (i := 18) (by kernel_rfl) rfl (fun K' hK => ?_)
 go_simp
 refine hK.out _ _ (fun _ => hS) (fun hS => ?_)
 replace hS := hS (by decide)
 clear hK K'
 try simp only [Act.put, w1z, w2z, w3z, w4z, w5z, w6z]
 have c6 : w7.cell? ⟨mb, 3, none⟩ = some (.slice Af nf cf) := hS.2.1
 have f6 : w7.frozen? ⟨mb, 3, none⟩ = false := Lib.frozen_of_heap HMA7.out 3
 refine wpAnyK_one (i := 19) (by kernel_rfl) rfl (fun K' hK => ?_)
 go_simp
 refine hK.out _ _ (fun h => absurd rfl h) (fun _ => ?_)
 clear hK K'
 try simp only [Act.put, w1z, w2z, w3z, w4z, w5z, w6z]
 refine wpAnyK_done (by kernel_rfl) ?_ _
 clear d0 d1 d2
 have HKE := zh (HM.out.keepF HPU.out.2.2)
 have HBN := zh (HBW.out.trans HPU.out.2.1)
 have hm8 := HPU.out.1
 have hbox8 := HKE.out.1 _ _ HBOX.out
 have hpl8 := HKE.out.2 _ _ HPL.out
 clear HPU HKE HBW HBOX c6 f6 HMA7 HBB7 HBX7 HNW HM6 HB6 HROW6 HBX6 HM5 HB5 HROW HBX5 HM4 HB4 HP4 HX4 HBX4 HKY HMD HPD HBD HBX  HM
 generalize w7.setCell ⟨mb, 3, none⟩ (.slice (some ⟨gg, 0, none⟩) (nf + 1) cap6) = wa at HBN hm8 hbox8 hpl8 ⊢
 have HM := zh hm8
 have HBW := zh HBN.out
 have HBOX := zh hbox8
 clear HPL
 have HPL := zh hpl8
 clear HBN hm8 hbox8 hpl8
 generalize (.slice (some ⟨gg, 0, none⟩) (nf + 1) cap6 : Value) = fv1 at HM ⊢
 go_wp2_with fail
 have d0 : wa.cell? ⟨bb, 0, none⟩ = some (ptr mb) := HM.out.ka.bd.cell.1
 have d1 : wa.cell? ⟨mb, 4, none⟩ = some (.slice Al nl cl) := HM.out.ka.bd.cell.2.2.1
 have d2 : wa.cell? ⟨b4, 1, none⟩ = some (.map lo) := by rw [Lib.cell_of_heap HBOX.out]; rfl
 refine wp_region_k 19 (fun w' => w'.cell? ⟨bb, 0, none⟩ = some (ptr mb) ∧ w'.cell? ⟨mb, 4, none⟩ = some (.slice Al nl cl) ∧ w'.cell? ⟨b4, 1, none⟩ = some (.map lo)) (by kernel_rfl) (⟨d0, d1, d2⟩) ?_
 intro hS
 change wpAnyK _ _ _ _ _ _ 20 (Array.replicate 20 false) _ (World.drew _)
 have HMD := zh (HM.out.below ((Below.refl _ wa).drew))
 have HPD := zh (HPL.out.below ((Below.refl _ wa).drew))
 have HBD := zh ((Below.refl wa.heap.size wa).drew)
 have HBX := zh (show (wa.drew).heap[b4]? = _ from HBOX.out)
 generalize wa.drew = wd at HMD HPD HBD HBX hS ⊢
 refine wpAnyK_take (i := 0) (v := ?_) rfl (by kernel_rfl) (by kernel_rfl) (by kernel_rfl) (by kernel_rfl) (fun _ _ _ h => h) (Or.inl ⟨by rfl, ?_⟩) hS ?_
 rotate_left 1
 ·intro wq _; go_simp; (try with_reducible rfl)
 try simp only [Act.put, w1z, w2z, w4z, w5z, w6z]
 refine wpAnyK_take (i := 1) (v := ?_) rfl (by kernel_rfl) (by kernel_rfl) (by kernel_rfl) (by kernel_rfl) (fun _ _ _ h => h) (Or.inl ⟨by rfl, ?_⟩) hS ?_
 rotate_left 1
 ·intro wq _; go_simp; (try with_reducible rfl)
 try simp only [Act.put, w1z, w2z, w3z, w4z, w5z, w6z]
 refine wpAnyK_take (i := 2) (v := ?_) rfl (by kernel_rfl) (by kernel_rfl) (by kernel_rfl) (by kernel_rfl) (fun _ _ _ h => h) (Or.inl ⟨by rfl, ?_⟩) hS ?_
 rotate_left 1
 ·intro wq _; go_simp; (try with_reducible rfl)
 try simp only [Act.put, w1z, w2z, w3z, w4z, w5z, w6z]
 refine wpAnyK_take (i := 3) (v := ?_) rfl (by kernel_rfl) (by kernel_rfl) (by kernel_rfl) (by kernel_rfl) (fun _ _ _ h => h) (Or.inl ⟨by rfl, ?_⟩) hS ?_
 rotate_left 1
 ·intro wq hq; obtain ⟨q1, q2, q3⟩ := hq; go_simp; (try with_reducible rfl)
 try simp only [Act.put, w1z, w2z, w3z, w4z, w5z, w6z]
 refine wpAnyK_take (i := 4) (v := ?_) rfl (by kernel_rfl) (by kernel_rfl) (by kernel_rfl) (by kernel_rfl) (fun _ _ _ h => h) (Or.inl ⟨by rfl, ?_⟩) hS ?_
 rotate_left 1
 ·intro wq _; go_simp; (try with_reducible rfl)
 try simp only [Act.put, w1z, w2z, w3z, w4z, w5z, w6z]
 refine wpAnyK_take (i := 5) (v := ?_) rfl (by kernel_rfl) (by kernel_rfl) (by kernel_rfl) (by kernel_rfl) (fun _ _ _ h => h) (Or.inl ⟨by rfl, ?_⟩) hS ?_
 rotate_left 1
 ·intro wq _; go_simp; (try with_reducible rfl)
 try simp only [Act.put, w1z, w2z, w3z, w4z, w5z, w6z]
 refine wpAnyK_take (i := 6) (v := ?_) rfl (by kernel_rfl) (by kernel_rfl) (by kernel_rfl) (by kernel_rfl) (fun _ _ _ h => h) (Or.inl ⟨by rfl, ?_⟩) hS ?_
 rotate_left 1
 ·intro wq _; go_simp; (try with_reducible rfl)
 try simp only [Act.put, w1z, w2z, w3z, w4z, w5z, w6z]
 refine wpAnyK_take (i := 7) (v := ?_) rfl (by kernel_rfl) (by kernel_rfl) (by kernel_rfl) (by kernel_rfl) (fun _ _ _ h => h) (Or.inl ⟨by rfl, ?_⟩) hS ?_
 rotate_left 1
 ·intro wq hq; obtain ⟨q1, q2, q3⟩ := hq; go_simp; (try with_reducible rfl)
 try simp only [Act.put, w1z, w2z, w3z, w4z, w5z, w6z]
 refine wpAnyK_take (i := 8) (v := ?_) rfl (by kernel_rfl) (by kernel_rfl) (by kernel_rfl) (by kernel_rfl) (fun _ _ _ h => h) (Or.inl ⟨by rfl, ?_⟩) hS ?_
 rotate_left 1
 ·intro wq _; go_simp; (try with_reducible rfl)
 try simp only [Act.put, w1z, w2z, w3z, w4z, w5z, w6z]
 refine wpAnyK_take (i := 9) (v := ?_) rfl (by kernel_rfl) (by kernel_rfl) (by kernel_rfl) (by kernel_rfl) (fun _ _ _ h => h) (Or.inl ⟨by rfl, ?_⟩) hS ?_
 rotate_left 1
 ·intro wq _; go_simp; (try with_reducible rfl)
 try simp only [Act.put, w1z, w2z, w3z, w4z, w5z, w6z]
 refine wpAnyK_take (i := 10) (v := ?_) rfl (by kernel_rfl) (by kernel_rfl) (by kernel_rfl) (by kernel_rfl) (fun _ _ _ h => h) (Or.inl ⟨by rfl, ?_⟩) hS ?_
 rotate_left 1
 ·intro wq hq; obtain ⟨q1, q2, q3⟩ := hq; go_simp; (try with_reducible rfl)
 try simp only [Act.put, w1z, w2z, w3z, w4z, w5z, w6z]
 refine wpAnyK_take (i := 11) (v := ?_) rfl (by kernel_rfl) (by kernel_rfl) (by kernel_rfl) (by kernel_rfl) (fun _ _ _ h => h) (Or.inl ⟨by rfl, ?_⟩) hS ?_
 rotate_left 1
 ·intro wq _; go_simp; (try with_reducible rfl)
 try simp only [Act.put, w1z, w2z, w3z, w4z, w5z, w6z]
 refine wpAnyK_take (i := 12) (v := ?_) rfl (by kernel_rfl) (by kernel_rfl) (by kernel_rfl) (by kernel_rfl) (fun _ _ _ h => h) (Or.inl ⟨by rfl, ?_⟩) hS ?_
 rotate_left 1
 ·intro wq hq; obtain ⟨q1, q2, q3⟩ := hq; go_simp; (try with_reducible rfl)
 try simp only [Act.put, w1z, w2z, w3z, w4z, w5z, w6z]
 refine wpAnyK_one (i := 13) (by kernel_rfl) rfl (fun K' hK => ?_)
 go_simp
 have HKY := zh (keys_any wd lo)
 go_at_call 84
 refine HKY.out.mono ?_
 rintro e w4 ⟨rfl, rfl⟩
 have hal := (Below.refl _ wd).alloc (Nat.le_refl _) (.cells #[.map lo] 140)
 have HM4 := zh (HMD.out.below hal)
 have HB4 := zh (below_tr HBD.out hal HBD.out.size)
 have HP4 := zh (HPD.out.below hal)
 have hX4 := heap_alloc_new wd (.cells #[.map lo] 140)
 have HX4 := zh hX4
 have HBX4 := zh ((hal.block _ (lt_of_heap HBX.out)).trans HBX.out)
 generalize wd.alloc (.cells #[.map lo] 140) = w4 at HM4 HB4 HP4 HX4 HBX4 hal hX4 ⊢
 clear hal hX4
 obtain ⟨W1, hW1⟩ : ∃ W1, W1 = wd.heap.size := ⟨_, rfl⟩
 rw [← hW1] at HX4 ⊢
 clear hW1
 refine hK.out _ _ (fun _ => ⟨HM4.out.ka.bd.cell.1, HM4.out.ka.bd.cell.2.2.1, by rw [Lib.cell_of_heap HBX4.out]; rfl⟩) (fun hS => ?_)
 replace hS := hS (by decide)
 clear hK K'
 try simp only [Act.put, w1z, w2z, w3z, w4z, w5z, w6z]
 refine wpAnyK_one (i := 14) (by kernel_rfl) rfl (fun K' hK => ?_)
 go_simp
 have HSO := zh (sorted_o w4 W1 lo nL (by rw [Lib.cell_of_heap HX4.out]; rfl) (lt_of_heap HX4.out) HP4.out (by have := HUL.out.len; have := HSM.out; omega) (fun q hq => by have := HUL.out.2 q hq; have := HSM.out; omega) HUL.out.1)
 go_at_call 83
 refine HSO.out.mono ?_
 rintro e w5 ⟨v, rfl, hrow, hb5⟩
 obtain ⟨Av, cv, rfl, hv1, hv2⟩ := own_form hrow
 have HM5 := zh (HM4.out.below hb5)
 have HB5 := zh (below_tr HB4.out hb5 HB4.out.size)
 have HROW := zh (own_base hrow HB4.out.size)
 have HBX5 := zh ((hb5.block _ (lt_of_heap HBX4.out)).trans HBX4.out)
 clear hb5 hrow HSO
 refine hK.out _ _ (fun _ => ⟨HM5.out.ka.bd.cell.1, HM5.out.ka.bd.cell.2.2.1, by rw [Lib.cell_of_heap HBX5.out]; rfl⟩) (fun hS => ?_)
 replace hS := hS (by decide)
 clear hK K'
 try simp only [Act.put, w1z, w2z, w3z, w4z, w5z, w6z]
 refine wpAnyK_one (i := 15) (by kernel_rfl) rfl (fun K' hK => ?_)
 go_simp
 have hal := (Below.refl _ w5).alloc (Nat.le_refl _) (.cells #[.slice Av nL.length cv] 32)
 have HM6 := zh (HM5.out.below hal)
 have HB6 := zh (below_tr HB5.out hal HB5.out.size)
 have HROW6 := zh (own_below HROW.out hal)
 have HBX6 := zh ((hal.block _ (lt_of_heap HBX5.out)).trans HBX5.out)
 have HNW := zh (heap_alloc_new w5 (.cells #[.slice Av nL.length cv] 32))
 obtain ⟨W2, hW2⟩ : ∃ W2, w5.heap.size = W2 := ⟨_, rfl⟩
 rw [hW2] at HNW ⊢
 generalize w5.alloc (.cells #[.slice Av nL.length cv] 32) = w6 at HM6 HB6 HROW6 HBX6 HNW hal ⊢
 clear hal hW2
 refine hK.out _ _ (fun _ => ⟨HM6.out.ka.bd.cell.1, HM6.out.ka.bd.cell.2.2.1, by rw [Lib.cell_of_heap HBX6.out]; rfl⟩) (fun hS => ?_)
 replace hS := hS (by decide)
 clear hK K'
 try simp only [Act.put, w1z, w2z, w3z, w4z, w5z, w6z]
 refine wpAnyK_one (i := 16) (by kernel_rfl) rfl (fun K' hK => ?_)
 refine step_append_lies _ (by rfl) _ _ _ (by rfl) B 32 i0 _ 1 24 Tryz.underlying77 HI.out HZ0.out HZ1.out HZ2.out rfl (by omega) (.slice Al nl cl) nl ll (by rfl) (by have := HM6.out.ol; rw [← HNL.out] at this; exact this) ⟨W2, 0, none⟩ 1 1 [.slice Av nL.length cv] (by rfl) (by rfl) (World.news_of_block (cs := #[.slice Av nL.length cv]) (t := 32) (fr := (0, 0)) HNW.out) (by simp [Value.oneCell']) (by omega) (by unfold maxLen; have := HSM.out; omega) (by have := HSM.out; omega) HM6.out.sB w6.heap.size rfl ?_
 intro gg cap6 w7 hown7 hgrow7 hat7 hlt7
 have HPU := zh (HM.out.pushL (n1 := nl + 1) (cap := cap6) HB6.out HROW6.out hown7 (by rw [HNL.out]) hgrow7 (hat7.imp id (fun h => by rw [h]; exact Nat.le_refl _)))
 have HMA7 := zh ((hgrow7.block mb (lt_of_heap HM6.out.ka.bd.mach) (own_not HM6.out.ol HM6.out.ka.bd.mach (by decide))).trans HM6.out.ka.bd.mach)
 have HBB7 := zh ((hgrow7.block bb (lt_of_heap HM6.out.ka.bd.bld) (own_not HM6.out.ol HM6.out.ka.bd.bld (by decide))).trans HM6.out.ka.bd.bld)
 have HBX7 := zh ((hgrow7.block b4 (lt_of_heap HBX6.out) (own_not HM6.out.ol HBX6.out (by decide))).trans HBX6.out)
 clear hown7 hgrow7 hat7 hlt7
 refine hK.out _ _ (fun _ => ⟨by rw [Lib.cell_of_heap HBB7.out]; rfl, by rw [Lib.cell_of_heap HMA7.out]; rfl, by rw [Lib.cell_of_heap HBX7.out]; rfl⟩) (fun hS => ?_)
 replace hS := hS (by decide)
 clear hK K'
 try simp only [Act.put, w1z, w2z, w3z, w4z, w5z, w6z]
 refine wpAnyK_one (i := 17) (by kernel_rfl) rfl (fun K' hK => ?_)
 go_simp
 refine hK.out _ _ (fun _ => hS) (fun hS => ?_)
 replace hS := hS (by decide)
 clear hK K'
 try simp only [Act.put, w1z, w2z, w3z, w4z, w5z, w6z]
 refine wpAnyK_one (i := 18) (by kernel_rfl) rfl (fun K' hK => ?_)
 go_simp
 refine hK.out _ _ (fun _ => hS) (fun hS => ?_)
 replace hS := hS (by decide)
 clear hK K'
 try simp only [Act.put, w1z, w2z, w3z, w4z, w5z, w6z]
 have c6 : w7.cell? ⟨mb, 4, none⟩ = some (.slice Al nl cl) := hS.2.1
 have f6 : w7.frozen? ⟨mb, 4, none⟩ = false := Lib.frozen_of_heap HMA7.out 4
 refine wpAnyK_one (i := 19) (by kernel_rfl) rfl (fun K' hK => ?_)
 go_simp
 refine hK.out _ _ (fun h => absurd rfl h) (fun _ => ?_)
 clear hK K'
 try simp only [Act.put, w1z, w2z, w3z, w4z, w5z, w6z]
 refine wpAnyK_done (by kernel_rfl) ?_ _
 clear d0 d1 d2
 have HKE := zh (HM.out.keepL HPU.out.2.2)
 have HBN := zh (HBW.out.trans HPU.out.2.1)
 have hm8 := HPU.out.1
 have hbox8 := HKE.out.1 _ _ HBOX.out
 have hpl8 := HKE.out.2 _ _ HPL.out
 clear HPU HKE HBW HBOX c6 f6 HMA7 HBB7 HBX7 HNW HM6 HB6 HROW6 HBX6 HM5 HB5 HROW HBX5 HM4 HB4 HP4 HX4 HBX4 HKY HMD HPD HBD HBX HPL HM
 generalize w7.setCell ⟨mb, 4, none⟩ (.slice (some ⟨gg, 0, none⟩) (nl + 1) cap6) = wb at HBN hm8 hbox8 hpl8 ⊢
 have HM := zh hm8
 have HBW := zh HBN.out
 have HBOX := zh hbox8
 skip
 have HPL := zh hpl8
 clear HBN hm8 hbox8 hpl8
 generalize (.slice (some ⟨gg, 0, none⟩) (nl + 1) cap6 : Value) = lv1 at HM ⊢
 go_wp2_with fail
 have d0 : wb.cell? ⟨bb, 0, none⟩ = some (ptr mb) := HM.out.ka.bd.cell.1
 have d1 : wb.cell? ⟨mb, 5, none⟩ = some (.slice Ae R ce) := HM.out.ka.bd.cell.2.2.2
 have d2 : wb.cell? ⟨b4, 2, none⟩ = some (.bool β) := by rw [Lib.cell_of_heap HBOX.out]; rfl
 refine wp_region_k 17 (fun w' => w'.cell? ⟨bb, 0, none⟩ = some (ptr mb) ∧ w'.cell? ⟨mb, 5, none⟩ = some (.slice Ae R ce) ∧ w'.cell? ⟨b4, 2, none⟩ = some (.bool β)) (by kernel_rfl) (⟨d0, d1, d2⟩) ?_
 intro hS
 change wpAnyK _ _ _ _ _ _ 18 (Array.replicate 18 false) _ (World.drew _)
 have HMD := zh (HM.out.below ((Below.refl _ wb).drew))
 have HBD := zh ((Below.refl wb.heap.size wb).drew)
 have HBX := zh (show (wb.drew).heap[b4]? = _ from HBOX.out)
 generalize wb.drew = wd at HMD HBD HBX hS ⊢
 refine wpAnyK_take (i := 0) (v := ?_) rfl (by kernel_rfl) (by kernel_rfl) (by kernel_rfl) (by kernel_rfl) (fun _ _ _ h => h) (Or.inl ⟨by rfl, ?_⟩) hS ?_
 rotate_left 1
 ·intro wq _; go_simp; (try with_reducible rfl)
 try simp only [Act.put, w1z, w2z, w4z, w5z, w6z]
 refine wpAnyK_take (i := 1) (v := ?_) rfl (by kernel_rfl) (by kernel_rfl) (by kernel_rfl) (by kernel_rfl) (fun _ _ _ h => h) (Or.inl ⟨by rfl, ?_⟩) hS ?_
 rotate_left 1
 ·intro wq _; go_simp; (try with_reducible rfl)
 try simp only [Act.put, w1z, w2z, w3z, w4z, w5z, w6z]
 refine wpAnyK_take (i := 2) (v := ?_) rfl (by kernel_rfl) (by kernel_rfl) (by kernel_rfl) (by kernel_rfl) (fun _ _ _ h => h) (Or.inl ⟨by rfl, ?_⟩) hS ?_
 rotate_left 1
 ·intro wq _; go_simp; (try with_reducible rfl)
 try simp only [Act.put, w1z, w2z, w3z, w4z, w5z, w6z]
 refine wpAnyK_take (i := 3) (v := ?_) rfl (by kernel_rfl) (by kernel_rfl) (by kernel_rfl) (by kernel_rfl) (fun _ _ _ h => h) (Or.inl ⟨by rfl, ?_⟩) hS ?_
 rotate_left 1
 ·intro wq hq; obtain ⟨q1, q2, q3⟩ := hq; go_simp; (try with_reducible rfl)
 try simp only [Act.put, w1z, w2z, w3z, w4z, w5z, w6z]
 refine wpAnyK_take (i := 4) (v := ?_) rfl (by kernel_rfl) (by kernel_rfl) (by kernel_rfl) (by kernel_rfl) (fun _ _ _ h => h) (Or.inl ⟨by rfl, ?_⟩) hS ?_
 rotate_left 1
 ·intro wq _; go_simp; (try with_reducible rfl)
 try simp only [Act.put, w1z, w2z, w3z, w4z, w5z, w6z]
 refine wpAnyK_take (i := 5) (v := ?_) rfl (by kernel_rfl) (by kernel_rfl) (by kernel_rfl) (by kernel_rfl) (fun _ _ _ h => h) (Or.inl ⟨by rfl, ?_⟩) hS ?_
 rotate_left 1
 ·intro wq _; go_simp; (try with_reducible rfl)
 try simp only [Act.put, w1z, w2z, w3z, w4z, w5z, w6z]
 refine wpAnyK_take (i := 6) (v := ?_) rfl (by kernel_rfl) (by kernel_rfl) (by kernel_rfl) (by kernel_rfl) (fun _ _ _ h => h) (Or.inl ⟨by rfl, ?_⟩) hS ?_
 rotate_left 1
 ·intro wq _; go_simp; (try with_reducible rfl)
 try simp only [Act.put, w1z, w2z, w3z, w4z, w5z, w6z]
 refine wpAnyK_take (i := 7) (v := ?_) rfl (by kernel_rfl) (by kernel_rfl) (by kernel_rfl) (by kernel_rfl) (fun _ _ _ h => h) (Or.inl ⟨by rfl, ?_⟩) hS ?_
 rotate_left 1
 ·intro wq hq; obtain ⟨q1, q2, q3⟩ := hq; go_simp; (try with_reducible rfl)
 try simp only [Act.put, w1z, w2z, w3z, w4z, w5z, w6z]
 refine wpAnyK_take (i := 8) (v := ?_) rfl (by kernel_rfl) (by kernel_rfl) (by kernel_rfl) (by kernel_rfl) (fun _ _ _ h => h) (Or.inl ⟨by rfl, ?_⟩) hS ?_
 rotate_left 1
 ·intro wq _; go_simp; (try with_reducible rfl)
 try simp only [Act.put, w1z, w2z, w3z, w4z, w5z, w6z]
 refine wpAnyK_take (i := 9) (v := ?_) rfl (by kernel_rfl) (by kernel_rfl) (by kernel_rfl) (by kernel_rfl) (fun _ _ _ h => h) (Or.inl ⟨by rfl, ?_⟩) hS ?_
 rotate_left 1
 ·intro wq _; go_simp; (try with_reducible rfl)
 try simp only [Act.put, w1z, w2z, w3z, w4z, w5z, w6z]
 refine wpAnyK_take (i := 10) (v := ?_) rfl (by kernel_rfl) (by kernel_rfl) (by kernel_rfl) (by kernel_rfl) (fun _ _ _ h => h) (Or.inl ⟨by rfl, ?_⟩) hS ?_
 rotate_left 1
 ·intro wq hq; obtain ⟨q1, q2, q3⟩ := hq; go_simp; (try with_reducible rfl)
 try simp only [Act.put, w1z, w2z, w3z, w4z, w5z, w6z]
 refine wpAnyK_take (i := 11) (v := ?_) rfl (by kernel_rfl) (by kernel_rfl) (by kernel_rfl) (by kernel_rfl) (fun _ _ _ h => h) (Or.inl ⟨by rfl, ?_⟩) hS ?_
 rotate_left 1
 ·intro wq _; go_simp; (try with_reducible rfl)
 try simp only [Act.put, w1z, w2z, w3z, w4z, w5z, w6z]
 refine wpAnyK_take (i := 12) (v := ?_) rfl (by kernel_rfl) (by kernel_rfl) (by kernel_rfl) (by kernel_rfl) (fun _ _ _ h => h) (Or.inl ⟨by rfl, ?_⟩) hS ?_
 rotate_left 1
 ·intro wq hq; obtain ⟨q1, q2, q3⟩ := hq; go_simp; (try with_reducible rfl)
 try simp only [Act.put, w1z, w2z, w3z, w4z, w5z, w6z]
 refine wpAnyK_one (i := 13) (by kernel_rfl) rfl (fun K' hK => ?_)
 go_simp
 have hal := (Below.refl _ wd).alloc (Nat.le_refl _) (.cells #[.bool β] 4)
 have HM6 := zh (HMD.out.below hal)
 have HB6 := zh (below_tr HBD.out hal HBD.out.size)
 have HBX6 := zh ((hal.block _ (lt_of_heap HBX.out)).trans HBX.out)
 have HNW := zh (heap_alloc_new wd (.cells #[.bool β] 4))
 obtain ⟨W2, hW2⟩ : ∃ W2, wd.heap.size = W2 := ⟨_, rfl⟩
 rw [hW2] at HNW ⊢
 generalize wd.alloc (.cells #[.bool β] 4) = w6 at HM6 HB6 HBX6 HNW hal ⊢
 clear hal hW2
 refine hK.out _ _ (fun _ => ⟨HM6.out.ka.bd.cell.1, HM6.out.ka.bd.cell.2.2.2, by rw [Lib.cell_of_heap HBX6.out]; rfl⟩) (fun hS => ?_)
 replace hS := hS (by decide)
 clear hK K'
 try simp only [Act.put, w1z, w2z, w3z, w4z, w5z, w6z]
 refine wpAnyK_one (i := 14) (by kernel_rfl) rfl (fun K' hK => ?_)
 refine step_append_lies _ (by rfl) _ _ _ (by rfl) B 4 i1 _ 1 1 Tryz.underlying67 HJ.out HY0.out HY1.out HY2.out rfl (by omega) (.slice Ae R ce) R (EL.map .bool) (by rfl) HM6.out.em ⟨W2, 0, none⟩ 1 1 [.bool β] (by rfl) (by rfl) (World.news_of_block (cs := #[.bool β]) (t := 4) (fr := (0, 0)) HNW.out) (by simp [Value.oneCell']) (by omega) (by unfold maxLen; have := HSM.out; omega) (by have := HSM.out; omega) HM6.out.sB w6.heap.size rfl ?_
 intro gg cap6 w7 hown7 hgrow7 hat7 hlt7
 have HPU := zh (HM.out.pushE (n1 := R + 1) (cap := cap6) HB6.out hown7 rfl hgrow7)
 have HMA7 := zh ((hgrow7.block mb (lt_of_heap HM6.out.ka.bd.mach) (own_not HM6.out.em HM6.out.ka.bd.mach (by decide))).trans HM6.out.ka.bd.mach)
 have HBB7 := zh ((hgrow7.block bb (lt_of_heap HM6.out.ka.bd.bld) (own_not HM6.out.em HM6.out.ka.bd.bld (by decide))).trans HM6.out.ka.bd.bld)
 have HBX7 := zh ((hgrow7.block b4 (lt_of_heap HBX6.out) (own_not HM6.out.em HBX6.out (by decide))).trans HBX6.out)
 clear hown7 hgrow7 hat7 hlt7
 refine hK.out _ _ (fun _ => ⟨by rw [Lib.cell_of_heap HBB7.out]; rfl, by rw [Lib.cell_of_heap HMA7.out]; rfl, by rw [Lib.cell_of_heap HBX7.out]; rfl⟩) (fun hS => ?_)
 replace hS := hS (by decide)
 clear hK K'
 try simp only [Act.put, w1z, w2z, w3z, w4z, w5z, w6z]
 refine wpAnyK_one (i := 15) (by kernel_rfl) rfl (fun K' hK => ?_)
 go_simp
 refine hK.out _ _ (fun _ => hS) (fun hS => ?_)
 replace hS := hS (by decide)
 clear hK K'
 try simp only [Act.put, w1z, w2z, w3z, w4z, w5z, w6z]
 refine wpAnyK_one (i := 16) (by kernel_rfl) rfl (fun K' hK => ?_)
 go_simp
 refine hK.out _ _ (fun _ => hS) (fun hS => ?_)
 replace hS := hS (by decide)
 clear hK K'
 try simp only [Act.put, w1z, w2z, w3z, w4z, w5z, w6z]
 have c6 : w7.cell? ⟨mb, 5, none⟩ = some (.slice Ae R ce) := hS.2.1
 have f6 : w7.frozen? ⟨mb, 5, none⟩ = false := Lib.frozen_of_heap HMA7.out 5
 refine wpAnyK_one (i := 17) (by kernel_rfl) rfl (fun K' hK => ?_)
 go_simp
 refine hK.out _ _ (fun h => absurd rfl h) (fun _ => ?_)
 clear hK K'
 try simp only [Act.put, w1z, w2z, w3z, w4z, w5z, w6z]
 refine wpAnyK_done (by kernel_rfl) ?_ _
 have hfin := HAD.out (w7.setCell ⟨mb, 5, none⟩ (.slice (some ⟨gg, 0, none⟩) (R + 1) cap6)) ⟨_, X2, sv2, rv2, _, _, HPU.out.1, rfl, rfl, rfl, rfl, rfl, rfl, rfl, HBW.out.trans HPU.out.2⟩
 have HFIN := zh hfin
 clear hfin HPU
 go_end0
 exact ⟨rfl, HFIN.out⟩
end Go.Proofs.YtejdfpieblkapaaGreatDoor
