/- A new position. -/
import Derived.Test.YtejdfpieblkapaaGreatDoorG10
import Derived.Deep.RegionLaw
namespace Go.Proofs.YtejdfpieblkapaaGreatDoor
open Go.RowKit Go.Shelf

set_option maxHeartbeats 1000000 in
theorem len_any (w : World) (mb : Nat) (A : Option Addr) (n c : Nat) (h : w.cell? ⟨mb, 0, none⟩ = some (.slice A n c)) : Calls Tryz.prog 17 #[ptr mb] w fun e w' => e = .returned (.int .i64 n) ∧ w' = w := by
  go_enter Tryz.func17, Tryz.ntmps17
  go_wp2
  go_ret
  exact ⟨rfl, rfl⟩
set_option maxHeartbeats 1000000 in
theorem rules_any (w : World) (mb : Nat) (A : Option Addr) (n c : Nat) (h : w.cell? ⟨mb, 5, none⟩ = some (.slice A n c)) : Calls Tryz.prog 18 #[ptr mb] w fun e w' => e = .returned (.int .i64 n) ∧ w' = w := by
  go_enter Tryz.func18, Tryz.ntmps18
  go_wp2
  go_ret
  exact ⟨rfl, rfl⟩
theorem FoAt.x {w : World} {A : Option Addr} {cnt : Nat} {gs : Nat → Nat} {X X' : Nat → Prop} {F : Nat → Nat → Bool} (h : FoAt w A cnt gs X F) (hx : ∀ i ws, BsAt w i ws → X i → X' i) (hx2 : ∀ i cs, w.heap[i]? = some (.cells cs 87 (0, 0)) → X' i → X i) : FoAt w A cnt gs X' F := by
  refine ⟨fun p hp => ?_, h.2⟩
  obtain ⟨fg, ws, cs, a1, a2, a3, a4, a5, a6, a7, a8⟩ := h.1 p hp
  exact ⟨fg, ws, cs, a1, a2, a3, fun e => a4 (hx2 fg _ a3 e), a5, a6, a7, hx _ _ a5 a8⟩
theorem Bd.sets_push {w wa w6 : World} {p : BP} {X : Nat → Prop} {ss : List Ws} {rl : List Nat} {F : Nat → Nat → Bool} {sv rv : Value} {s : Ws} {gg n1 cap : Nat} (h : Bd w p X ss rl F sv rv) (hgb : ∃ es clk, w.heap[p.gb]? = some (.map es clk)) (hb : Below w.heap.size w wa)
    (hown : w6.ownsRow 0 100 4 (.slice (some ⟨gg, 0, none⟩) n1 cap) n1 (flatW ss ++ [.int .u64 s.a, .int .u64 s.b, .int .u64 s.c, .int .u64 s.d])) (hn1 : n1 = ss.length + 1) (hg : wa.grownBy w6 sv.ownBlock) (hat : sv.ownBlock = some gg ∨ w.heap.size ≤ gg) :
    Bd (w6.setCell ⟨p.mb, 0, none⟩ (.slice (some ⟨gg, 0, none⟩) n1 cap)) p (fun i => (X i ∧ some i ≠ sv.ownBlock) ∨ i = gg) (ss ++ [s]) rl F (.slice (some ⟨gg, 0, none⟩) n1 cap) rv ∧ Kb X w (w6.setCell ⟨p.mb, 0, none⟩ (.slice (some ⟨gg, 0, none⟩) n1 cap)) ∧ (∀ i, i < w.heap.size → ((X i ∧ some i ≠ sv.ownBlock) ∨ i = gg) → X i) := by
  have hA := h.below hb
  have hkg := Kb.of_grown hg
  have hty : ∀ (b : Nat) (cs : Array Value) (t : TypeId) (fz : Nat × Nat), wa.heap[b]? = some (.cells cs t fz) → t ≠ 100 → w6.heap[b]? = some (.cells cs t fz) := fun b cs t fz hb' ht => (hg.block b (lt_of_heap hb') (own_not hA.sets hb' ht)).trans hb'
  have h1 := hty _ _ _ _ hA.bld (by decide)
  have h2 := hty _ _ _ _ hA.mach (by decide)
  obtain ⟨_, cg, h3⟩ := own_ty hown (g := gg) rfl
  have hset := Kb.setCell w6 ⟨p.mb, 0, none⟩ (.slice (some ⟨gg, 0, none⟩) n1 cap)
  have hgm : gg ≠ p.mb := fun e => by rw [e, h2] at h3; cases h3
  have hbm : p.bb ≠ p.mb := fun e => by rw [e, h2] at h1; cases h1
  have hr6 : w6.ownsRow 0 3 1 rv rl.length (rl.map pv) := own_kb hA.rules hkg (fun q hq e => by
    obtain ⟨_, cs, h4⟩ := own_ty hA.rules hq
    obtain ⟨_, cs', h5⟩ := own_ty hA.sets e.symm
    rw [h4] at h5; cases h5)
  have hfx : FoAt w p.A p.cnt p.gs (fun i => (X i ∧ some i ≠ sv.ownBlock) ∨ i = gg) F := h.fo.x (fun i ws hi hX => .inl ⟨hX, own_not h.sets hi.1 (by decide)⟩) (fun i cs hi hx => by
    rcases hx with hx | rfl
    · exact hx.1
    · exfalso
      rcases hat with h4 | h4
      · obtain ⟨_, cs5, h5⟩ := own_ty h.sets h4
        rw [hi] at h5; cases h5
      · have := lt_of_heap hi; omega)
  have hf6 : FoAt w6 p.A p.cnt p.gs (fun i => (X i ∧ some i ≠ sv.ownBlock) ∨ i = gg) F := (hfx.below hb).kb hkg (fun i cs t fz e hi => by
    obtain ⟨_, cs', h5⟩ := own_ty hA.sets e.symm
    rw [hi] at h5
    injection h5 with h5
    injection h5 with _ h5 _
    rw [h5]; decide)
  have hxx : ∀ i, i < w.heap.size → ((X i ∧ some i ≠ sv.ownBlock) ∨ i = gg) → X i := fun i hi hx => by
    rcases hx with hx | rfl
    · exact hx.1
    · rcases hat with h4 | h4
      · exact h.xs _ h4
      · omega
  refine ⟨⟨(hset.block _ (lt_of_heap h1) hbm).trans h1, by rw [set_heap w6 p.mb 0 _ _ _ _ h2]; rfl, ?_, own_kb hr6 hset (fun q hq e => ?_), ?_, fun q hq => ?_, fun q hq => .inl ⟨h.xr q hq, fun e => by
    obtain ⟨_, cs4, h4⟩ := own_ty hA.rules hq
    obtain ⟨_, cs5, h5⟩ := own_ty hA.sets e.symm
    rw [h4] at h5; cases h5⟩, .inl ⟨h.xm, own_not hA.sets hA.mach (by decide)⟩, ?_, ?_, h.cap, fun i hi => ?_⟩, ?_, hxx⟩
  · have := own_kb hown hset (fun q hq e => by
      have hq' : gg = q := by simpa [Value.ownBlock] using hq
      exact hgm (hq'.trans e))
    rw [List.length_append, show (flatW (ss ++ [s])) = flatW ss ++ [.int .u64 s.a, .int .u64 s.b, .int .u64 s.c, .int .u64 s.d] by simp [flatW]]
    rw [hn1] at this ⊢
    exact this
  · obtain ⟨_, cs, h4⟩ := own_ty hr6 hq
    rw [e, h2] at h4; cases h4
  · exact (hf6.kb hset (fun i cs t fz e hi => by
      rw [e, h2] at hi
      injection hi with hi
      injection hi with _ h5 _
      rw [← h5]; decide))
  · have hq' : gg = q := by simpa [Value.ownBlock] using hq
    exact .inr hq'.symm
  · rintro (hx | hx)
    · exact h.xb hx.1
    · rw [hx] at h1
      rw [h3] at h1; cases h1
  · rintro (hx | hx)
    · exact h.xg hx.1
    · obtain ⟨es, clk, h4⟩ := hgb
      have h5 := (hb.block _ (lt_of_heap h4)).trans h4
      have h6 : w6.heap[p.gb]? = some (.map es clk) := (hg.block _ (lt_of_heap h5) (fun e => by
        obtain ⟨_, cs', h7⟩ := own_ty hA.sets e.symm
        rw [h5] at h7; cases h7)).trans h5
      rw [hx, h3] at h6
      cases h6
  · by_cases e : i = p.mb
    · rw [e]; exact ⟨_, _, set_heap w6 p.mb 0 _ _ _ _ h2, .inl rfl⟩
    · rcases hi with hi | hi
      · obtain ⟨cs, t, h5, h6⟩ := hA.xt i hi.1
        have h8 := (hg.block i (lt_of_heap h5) hi.2).trans h5
        exact ⟨_, _, (hset.block i (lt_of_heap h8) e).trans h8, h6⟩
      · rw [hi]; exact ⟨_, _, (hset.block gg (lt_of_heap h3) hgm).trans h3, .inr (.inl rfl)⟩
  · exact ((Kb.of_below X hb).trans hkg (fun i hi e => h.xs i e.symm)).trans hset (fun i hi e => by rw [e]; exact h.xm)
theorem Bd.rules_push {w wa w6 : World} {p : BP} {X : Nat → Prop} {ss : List Ws} {rl : List Nat} {F : Nat → Nat → Bool} {sv rv : Value} {R : Nat} {gg n1 cap : Nat} (h : Bd w p X ss rl F sv rv) (hgb : ∃ es clk, w.heap[p.gb]? = some (.map es clk)) (hb : Below w.heap.size w wa)
    (hown : w6.ownsRow 0 3 1 (.slice (some ⟨gg, 0, none⟩) n1 cap) n1 (rl.map pv ++ [pv R])) (hn1 : n1 = rl.length + 1) (hg : wa.grownBy w6 rv.ownBlock) (hat : rv.ownBlock = some gg ∨ w.heap.size ≤ gg) :
    Bd (w6.setCell ⟨p.mb, 1, none⟩ (.slice (some ⟨gg, 0, none⟩) n1 cap)) p (fun i => (X i ∧ some i ≠ rv.ownBlock) ∨ i = gg) ss (rl ++ [R]) F sv (.slice (some ⟨gg, 0, none⟩) n1 cap) ∧ Kb X w (w6.setCell ⟨p.mb, 1, none⟩ (.slice (some ⟨gg, 0, none⟩) n1 cap)) ∧ (∀ i, i < w.heap.size → ((X i ∧ some i ≠ rv.ownBlock) ∨ i = gg) → X i) := by
  have hA := h.below hb
  have hkg := Kb.of_grown hg
  have hty : ∀ (b : Nat) (cs : Array Value) (t : TypeId) (fz : Nat × Nat), wa.heap[b]? = some (.cells cs t fz) → t ≠ 3 → w6.heap[b]? = some (.cells cs t fz) := fun b cs t fz hb' ht => (hg.block b (lt_of_heap hb') (own_not hA.rules hb' ht)).trans hb'
  have h1 := hty _ _ _ _ hA.bld (by decide)
  have h2 := hty _ _ _ _ hA.mach (by decide)
  obtain ⟨_, cg, h3⟩ := own_ty hown (g := gg) rfl
  have hset := Kb.setCell w6 ⟨p.mb, 1, none⟩ (.slice (some ⟨gg, 0, none⟩) n1 cap)
  have hgm : gg ≠ p.mb := fun e => by rw [e, h2] at h3; cases h3
  have hbm : p.bb ≠ p.mb := fun e => by rw [e, h2] at h1; cases h1
  have hr6 : w6.ownsRow 0 100 4 sv ss.length (flatW ss) := own_kb hA.sets hkg (fun q hq e => by
    obtain ⟨_, cs, h4⟩ := own_ty hA.sets hq
    obtain ⟨_, cs', h5⟩ := own_ty hA.rules e.symm
    rw [h4] at h5; cases h5)
  have hfx : FoAt w p.A p.cnt p.gs (fun i => (X i ∧ some i ≠ rv.ownBlock) ∨ i = gg) F := h.fo.x (fun i ws hi hX => .inl ⟨hX, own_not h.rules hi.1 (by decide)⟩) (fun i cs hi hx => by
    rcases hx with hx | rfl
    · exact hx.1
    · exfalso
      rcases hat with h4 | h4
      · obtain ⟨_, cs5, h5⟩ := own_ty h.rules h4
        rw [hi] at h5; cases h5
      · have := lt_of_heap hi; omega)
  have hf6 : FoAt w6 p.A p.cnt p.gs (fun i => (X i ∧ some i ≠ rv.ownBlock) ∨ i = gg) F := (hfx.below hb).kb hkg (fun i cs t fz e hi => by
    obtain ⟨_, cs', h5⟩ := own_ty hA.rules e.symm
    rw [hi] at h5
    injection h5 with h5
    injection h5 with _ h5 _
    rw [h5]; decide)
  have hxx : ∀ i, i < w.heap.size → ((X i ∧ some i ≠ rv.ownBlock) ∨ i = gg) → X i := fun i hi hx => by
    rcases hx with hx | rfl
    · exact hx.1
    · rcases hat with h4 | h4
      · exact h.xr _ h4
      · omega
  refine ⟨⟨(hset.block _ (lt_of_heap h1) hbm).trans h1, by rw [set_heap w6 p.mb 1 _ _ _ _ h2]; rfl, own_kb hr6 hset (fun q hq e => ?_), ?_, ?_, fun q hq => .inl ⟨h.xs q hq, fun e => by
    obtain ⟨_, cs4, h4⟩ := own_ty hA.sets hq
    obtain ⟨_, cs5, h5⟩ := own_ty hA.rules e.symm
    rw [h4] at h5; cases h5⟩, fun q hq => ?_, .inl ⟨h.xm, own_not hA.rules hA.mach (by decide)⟩, ?_, ?_, h.cap, fun i hi => ?_⟩, ?_, hxx⟩
  · obtain ⟨_, cs, h4⟩ := own_ty hr6 hq
    rw [e, h2] at h4; cases h4
  · have := own_kb hown hset (fun q hq e => by
      have hq' : gg = q := by simpa [Value.ownBlock] using hq
      exact hgm (hq'.trans e))
    rw [List.length_append, List.map_append]
    rw [hn1] at this ⊢
    exact this
  · exact (hf6.kb hset (fun i cs t fz e hi => by
      rw [e, h2] at hi
      injection hi with hi
      injection hi with _ h5 _
      rw [← h5]; decide))
  · have hq' : gg = q := by simpa [Value.ownBlock] using hq
    exact .inr hq'.symm
  · rintro (hx | hx)
    · exact h.xb hx.1
    · rw [hx] at h1
      rw [h3] at h1; cases h1
  · rintro (hx | hx)
    · exact h.xg hx.1
    · obtain ⟨es, clk, h4⟩ := hgb
      have h5 := (hb.block _ (lt_of_heap h4)).trans h4
      have h6 : w6.heap[p.gb]? = some (.map es clk) := (hg.block _ (lt_of_heap h5) (fun e => by
        obtain ⟨_, cs', h7⟩ := own_ty hA.rules e.symm
        rw [h5] at h7; cases h7)).trans h5
      rw [hx, h3] at h6
      cases h6
  · by_cases e : i = p.mb
    · rw [e]; exact ⟨_, _, set_heap w6 p.mb 1 _ _ _ _ h2, .inl rfl⟩
    · rcases hi with hi | hi
      · obtain ⟨cs, t, h5, h6⟩ := hA.xt i hi.1
        have h8 := (hg.block i (lt_of_heap h5) hi.2).trans h5
        exact ⟨_, _, (hset.block i (lt_of_heap h8) e).trans h8, h6⟩
      · rw [hi]; exact ⟨_, _, (hset.block gg (lt_of_heap h3) hgm).trans h3, .inr (.inr (.inl rfl))⟩
  · exact ((Kb.of_below X hb).trans hkg (fun i hi e => h.xr i e.symm)).trans hset (fun i hi e => by rw [e]; exact h.xm)
end Go.Proofs.YtejdfpieblkapaaGreatDoor
