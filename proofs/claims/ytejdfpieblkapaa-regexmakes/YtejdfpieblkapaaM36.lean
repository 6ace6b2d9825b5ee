/- The parser's calls on groups: whole; groups are pushed and popped. -/
import Derived.Test.YtejdfpieblkapaaM35
namespace Go.Proofs.Ytejdfpieblkapaa
open Go.RowKit Go.Shelf

theorem Grp.Ok.next {g : Grp} (h : g.Ok) : (∀ r ∈ g.nextWay.ways, r.size ≤ 100000) ∧ g.nextWay.ways.length ≤ 901 := by
  refine ⟨fun r hr => ?_, by show (g.ways ++ [catR g.row]).length ≤ _; rw [List.length_append]; have := h.ways; simp; omega⟩
  rcases List.mem_append.1 hr with hr | hr
  · have := h.szw r hr; omega
  · rw [List.mem_singleton.1 hr]
    have := catR_size g.row
    have := h.szr
    omega

set_option maxRecDepth 100000 in
set_option maxHeartbeats 2000000 in
theorem whole_any (w0 w : World) (P G cap : Nat) (s : ByteArray) (i : Nat) (d : Int) (lo : List Grp) (g : Grp) (H : PI w0 w P G cap s i d (lo ++ [g])) (hok : g.Ok) :
    Calls Try.prog 24 #[.pointer (some ⟨G, lo.length * 2, none⟩)] w fun e w' => ∃ nb, e = .returned (ptr nb) ∧ PIn w0 w' P G cap s i d (lo ++ [g.nextWay]) g.whole nb := by
  have HN := Lib.hid (nextWay_any w0 w P G cap s i d lo g H hok)
  obtain ⟨k2, hk2⟩ : ∃ k2, k2 = lo.length * 2 := ⟨_, rfl⟩
  rw [← hk2] at HN ⊢
  have HK2 := Lib.hid hk2; have HOK := Lib.hid hok
  clear H hok hk2
  go_enter Try.func24, Try.ntmps24
  go_wp2_with fail
  refine HN.out.mono ?_
  rintro e w1 ⟨rfl, ρ, vs, H1, hf⟩
  obtain ⟨a, b, ha, hb, ra, rb⟩ := H1.last
  obtain ⟨asl, hao, has, har⟩ := ra
  obtain ⟨A, ca, hav, hcapa, hcapa2⟩ := own_form hao
  subst hav
  have hok := HOK.out.next
  have HC := Lib.hid (or_q (fun i => ρ i = 0) ca g.nextWay.ways.length A asl g.nextWay.ways w1 (own_row hao) has has.1.symm hcapa hcapa2 (by omega) hok.1)
  rw [← HK2.out] at ha
  have q1 := H1.cell ha
  generalize g.nextWay.ways.length = m at HC q1
  have HX := Lib.hid H1; have HF := Lib.hid hf
  clear H1 hf ha hb rb hao has har hok hcapa
  go_wp2_with fail
  refine HC.out.mono ?_
  rintro e w2 ⟨nb, rfl, y1, y2⟩
  have HFin := Lib.hid (show PIn w0 w2 P G cap s i d (lo ++ [g.nextWay]) g.whole nb from ⟨ρ, vs, HX.out.below y2, fun i hi => HF.out i (Nat.le_trans y2.size hi), ndq_fresh HF.out y1⟩)
  clear y1 y2
  go_wp2
  go_ret
  exact ⟨nb, rfl, HFin.out⟩

section
variable {w0 w w6 : World} {ρ : Nat → Nat} {P G cap : Nat} {s : ByteArray} {i : Nat} {d : Int} {n : Nat} {vs : List Value} {R : List (List Rx)}
/-- A group is pushed. -/
theorem PIx.push (H : PIx 0 w0 w ρ P G cap s i d n vs R) (hf : ∀ i, w.heap.size ≤ i → ρ i = 0) {gg cap6 : Nat} (hk : Kb (fun i => i = G) w w6) (ho : w6.ownsRow 0 88 2 (.slice (some ⟨gg, 0, none⟩) (n + 1) cap6) (n + 1) (vs ++ [.slice none 0 0, .slice none 0 0])) (hg : gg = G ∨ w.heap.size ≤ gg) :
    ∃ ρ', PIx 0 w0 (w6.setCell ⟨P, 2, none⟩ (.slice (some ⟨gg, 0, none⟩) (n + 1) cap6)) ρ' P gg cap6 s i d (n + 1) (vs ++ [.slice none 0 0, .slice none 0 0]) (R ++ [[], []]) ∧ ∀ i, (w6.setCell ⟨P, 2, none⟩ (.slice (some ⟨gg, 0, none⟩) (n + 1) cap6)).heap.size ≤ i → ρ' i = 0 := by
  obtain ⟨ρ', hρ'⟩ : ∃ ρ' : Nat → Nat, ρ' = fun i => if i = gg then 2 else ρ i := ⟨_, rfl⟩
  have hgg : ρ' gg = 2 := by rw [hρ']; simp
  have hne : ∀ i, i ≠ gg → ρ' i = ρ i := fun i hi => by rw [hρ']; simp [hi]
  have heq : ∀ i, i < w.heap.size → ρ' i = ρ i := fun i hi => by
    by_cases hi' : i = gg
    · subst hi'
      rcases hg with hg | hg
      · rw [hgg, hg, H.rG]
      · omega
    · exact hne i hi'
  clear hρ'
  have hlow : ∀ i, ρ' i ≠ 0 → w0.heap.size ≤ i := fun i hi => by
    rcases Nat.lt_or_ge i w.heap.size with h | h
    · exact H.low i (by rw [← heq i h]; exact hi)
    · exact Nat.le_trans H.bel.size h
  have H1 := H.rho heq hlow
  have hP1 : ρ' P = 1 := H1.rP
  have hPl := H.ltP
  have hgl : gg < w6.heap.size := own_lt ho rfl
  have hPg : P ≠ gg := fun e => by rw [e, hgg] at hP1; omega
  have hps6 : PsB w6 P s i (.slice (some ⟨G, 0, none⟩) n cap) d false := (hk.block P hPl H.neq).trans H.ps
  have hk7 := Kb.setCell w6 ⟨P, 2, none⟩ (.slice (some ⟨gg, 0, none⟩) (n + 1) cap6)
  have hx6 : ∀ i, i < w.heap.size → i = G → ρ' i = 2 := fun i _ he => by rw [he]; exact H1.rG
  have hz : (w6.setCell ⟨P, 2, none⟩ (.slice (some ⟨gg, 0, none⟩) (n + 1) cap6)).heap.size = w6.heap.size := by simp [World.setCell]
  refine ⟨ρ', ⟨?_, own_kb ho hk7 (fun g hg' he => ?_), by rw [List.length_append, List.length_append, H.len]; rfl, fun c v rs h1 h2 _ => ?_, hP1, hgg, hlow, ?_⟩, fun i hi => ?_⟩
  · unfold PsB at hps6 ⊢
    rw [set_heap w6 P 2 _ _ _ _ hps6]; rfl
  · have : gg = g := by simpa [Value.ownBlock] using hg'
    exact hPg (by rw [this]; exact he.symm)
  · rcases Nat.lt_or_ge c vs.length with hc | hc
    · rw [List.getElem?_append_left hc] at h1
      rw [List.getElem?_append_left (by rw [H.len]; exact hc)] at h2
      refine ((H1.rows c v rs h1 h2 (by omega)).keep hk (fun i hi he => ?_)).keep hk7 (fun i hi he => ?_)
      · rw [hx6 i hi he]; omega
      · have he' : i = P := he
        rw [he', hP1]; omega
    · rw [List.getElem?_append_right hc] at h1
      rw [List.getElem?_append_right (by rw [H.len]; exact hc), H.len] at h2
      have hc2 : c - vs.length = 0 ∨ c - vs.length = 1 := by
        have := (List.getElem?_eq_some_iff.1 h1).1
        simp at this; omega
      rcases hc2 with hc2 | hc2 <;> rw [hc2] at h1 h2 <;> (
        have e1 : Value.slice none 0 0 = v := by simpa using h1
        have e2 : ([] : List Rx) = rs := by simpa using h2
        subst e1; subst e2
        exact RwAt.nil _ _ _)
  · have hPw : w0.heap.size ≤ P := hlow P (by rw [hP1]; omega)
    have hGw : w0.heap.size ≤ G := H.low G (by rw [H.rG]; omega)
    exact (H.bel.trans (hk.below H.bel.size (fun i he => by rw [he]; exact hGw))).trans (hk7.below (Nat.le_trans H.bel.size hk.size) (fun i he => by rw [show i = P from he]; exact hPw))
  · rw [hz] at hi
    have := hk.size
    rw [hne i (by omega)]
    exact hf i (by omega)
/-- A group is popped. -/
theorem PIx.pop {n' : Nat} (H : PIx 0 w0 w ρ P G cap s i d n vs R) (hn : n' ≤ n) :
    PIx 0 w0 (w.setCell ⟨P, 2, none⟩ (.slice (some ⟨G, 0, none⟩) n' cap)) ρ P G cap s i d n' (vs.take (n' * 2)) (R.take (n' * 2)) := by
  obtain ⟨cur, h1, h2, h3, h4, h5⟩ := H.blk
  have hk7 := Kb.setCell w ⟨P, 2, none⟩ (.slice (some ⟨G, 0, none⟩) n' cap)
  have hP1 := H.rP
  have hl := H.lenv
  refine ⟨?_, ⟨by rw [List.length_take]; omega, .inr ⟨G, cap, cur, rfl, Nat.zero_le _, (hk7.block G H.ltG (fun e => H.neq (show G = P from e).symm)).trans h1, by omega, h4, h5, by rw [← h2, List.take_take]; congr 1; omega⟩⟩, by rw [List.length_take, List.length_take, H.len], fun c v rs h1 h2 _ => ?_, hP1, H.rG, H.low, H.bel.trans (hk7.below H.bel.size (fun i he => by rw [show i = P from he]; exact H.low P (by rw [hP1]; omega)))⟩
  · have hp := H.ps
    unfold PsB at hp ⊢
    rw [set_heap w P 2 _ _ _ _ hp]; rfl
  · rw [List.getElem?_take] at h1 h2
    split at h1
    · rename_i hc
      rw [if_pos hc] at h2
      refine (H.rows c v rs h1 h2 (by omega)).keep hk7 (fun i hi he => ?_)
      have he' : i = P := he
      rw [he', hP1]; omega
    · cases h1
end
theorem flatG_take (a b : List Grp) : (flatG (a ++ b)).take (a.length * 2) = flatG a := by
  rw [flatG_append, ← flatG_len a, List.take_left]

theorem Try.info88 : (Try.prog.info? 88).map (fun i => (i.zero, i.size, i.bytes)) = some (some (.agg #[.slice none 0 0, .slice none 0 0]), 2, 48) := by kernel_rfl
set_option maxRecDepth 100000 in
set_option maxHeartbeats 2000000 in
theorem begin_pi (w0 w : World) (P G cap : Nat) (s : ByteArray) (i : Nat) (d : Nat) (gs : List Grp) (H : PI w0 w P G cap s i d gs) (hlo : gs.length ≤ 100) (hd : d ≤ 1000000) :
    Calls Try.prog 39 #[ptr P] w fun e w' => e = .returned (.tuple #[]) ∧ ∃ G' cap', PI w0 w' P G' cap' s i ((d + 1 : Nat) : Int) (gs ++ [g0]) := by
  obtain ⟨ρ, vs, H1, hf⟩ := H
  obtain ⟨_, _, c2, c3, c4, cf⟩ := ps_cells H1.ps
  have f3 := cf 3
  have f2 := cf 2
  obtain ⟨d1, hd1⟩ : ∃ d1 : Int, d1 = ((d + 1 : Nat) : Int) := ⟨_, rfl⟩
  have p1 : IntKind.i64.wrap ((d : Int) + 1) = d1 := by rw [hd1, IntWalk.i64_in _ (by omega)]; omega
  have hps1 : PsB (w.setCell ⟨P, 3, none⟩ (.int .i64 d1)) P s i (.slice (some ⟨G, 0, none⟩) gs.length cap) d1 false := by
    have hp := H1.ps
    unfold PsB at hp ⊢
    rw [set_heap w P 3 _ _ _ _ hp]; rfl
  have H2 := H1.psk (Kb.setCell w ⟨P, 3, none⟩ (.int .i64 d1)) hps1
  have hz2 : (w.setCell ⟨P, 3, none⟩ (.int .i64 d1)).heap.size = w.heap.size := by simp [World.setCell]
  rw [← hd1]
  have HD1 := Lib.hid hd1
  obtain ⟨i0, hi0, hz0, hz1, hz2'⟩ := info_parts Try.info88
  have HI := Lib.hid hi0; have HZ0 := Lib.hid hz0; have HZ1 := Lib.hid hz1; have HZ2 := Lib.hid hz2'
  clear hi0 hz0 hz1 hz2'
  have HX := Lib.hid H2; have HF := Lib.hid (show ∀ i, (w.setCell ⟨P, 3, none⟩ (.int .i64 d1)).heap.size ≤ i → ρ i = 0 by rw [hz2]; exact hf); have HPS := Lib.hid hps1
  have hPl := H1.ltP
  clear H1 H2 hf hps1 cf hd1
  go_enter Try.func39, Try.ntmps39
  go_wp2_with (at_builtin; refine wpList_append_lies _ rfl _ _ 52 rfl 0 88 i0 _ 2 48 Try.underlying52 HI.out HZ0.out HZ1.out HZ2.out rfl (by omega) (.slice (some ⟨G, 0, none⟩) gs.length cap) gs.length _ rfl (HX.out.own.alloc _) ⟨(w.setCell ⟨P, 3, none⟩ (.int .i64 d1)).heap.size, 0, none⟩ 1 1 [.slice none 0 0, .slice none 0 0] (by rw [hz2]; rfl) rfl (World.news_of_block (cs := #[.slice none 0 0, .slice none 0 0]) (t := 88) (fr := (0, 0)) (heap_alloc_new (w.setCell ⟨P, 3, none⟩ (.int .i64 d1)) _)) (by simp [Value.oneCell']) (by omega) (by unfold maxLen; omega) (by omega) (by simp) ((w.setCell ⟨P, 3, none⟩ (.int .i64 d1)).heap.size + 1) (by simp) ?_)
  intro gg cap6 w6 hown6 hgrow6 hat6 hlt6
  have hg6 : Kb (fun i => i = G) (w.setCell ⟨P, 3, none⟩ (.int .i64 d1)) w6 := (grown_kb hgrow6).wider (fun i hi => by
    have : some i = some G := hi
    injection this)
  obtain ⟨ρ', hp, hf'⟩ := HX.out.push HF.out hg6 hown6 (hat6.imp (fun h => by
    have : some G = some gg := h
    injection this with e
    exact e.symm) (fun h => by omega))
  obtain ⟨hfc, hff⟩ := far_cell (a := ⟨P, 2, none⟩) hg6 HX.out.ltP HX.out.neq
  rw [(ps_cells HPS.out).2.2.1] at hfc
  rw [(ps_cells HPS.out).2.2.2.2.2 2] at hff
  have HFin := Lib.hid (show PI w0 (w6.setCell ⟨P, 2, none⟩ (.slice (some ⟨gg, 0, none⟩) (gs.length + 1) cap6)) P gg cap6 s i d1 (gs ++ [g0]) from ⟨ρ', _, by
    have e1 : flatG gs ++ [[], []] = flatG (gs ++ [g0]) := by rw [flatG_append]; rfl
    have e2 : gs.length + 1 = (gs ++ [g0]).length := by simp
    rw [← e1, ← e2]; exact hp, hf'⟩)
  clear hown6 hgrow6 hat6 hlt6 hg6 hp hf'
  go_wp2
  go_end0
  exact ⟨rfl, _, _, HFin.out⟩
end Go.Proofs.Ytejdfpieblkapaa
