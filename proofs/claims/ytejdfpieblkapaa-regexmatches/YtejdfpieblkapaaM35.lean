/- The parser's calls on groups: nextWay, whole. -/
import Derived.Test.YtejdfpieblkapaaM32
namespace Go.Proofs.Ytejdfpieblkapaa
open Go.RowKit Go.Shelf

theorem own_row {w : World} {n c : Nat} {A : Option Addr} {bs : List Nat} (h : w.ownsRow 0 23 1 (.slice A n c) n (bs.map ptr)) : RowAt w A bs := by
  have hl := h.1
  rw [List.length_map] at hl
  rcases h.2 with ⟨hv, hn⟩ | ⟨g, cap, cur, hv, _, hh, _, _, _, h4⟩
  · exact .inl (List.length_eq_zero_iff.1 (by omega))
  · injection hv with e1 e2 e3
    refine .inr ⟨g, cur, _, e1, hh, fun i b hb => ?_⟩
    have : (bs.map ptr)[i]? = some (ptr b) := by rw [List.getElem?_map, hb]; rfl
    rw [← h4, List.getElem?_take_of_lt (by have := (List.getElem?_eq_some_iff.1 hb).1; omega)] at this
    simpa using this
/-- A group's bounds. -/
structure Grp.Ok (g : Grp) : Prop where
  ways : g.ways.length ≤ 900
  row : g.row.length ≤ 900
  szw : ∀ r ∈ g.ways, r.size ≤ 50000
  szr : szs g.row ≤ 20000
theorem Grp.Ok.szr' {g : Grp} (h : g.Ok) : ∀ r ∈ g.row, r.size ≤ 100000 := fun r hr => by have := szs_mem hr; have := h.szr; omega

set_option maxRecDepth 100000 in
set_option maxHeartbeats 4000000 in
theorem nextWay_any (w0 w : World) (P G cap : Nat) (s : ByteArray) (i : Nat) (d : Int) (lo : List Grp) (g : Grp) (H : PI w0 w P G cap s i d (lo ++ [g])) (hok : g.Ok) :
    Calls Try.prog 46 #[.pointer (some ⟨G, lo.length * 2, none⟩)] w fun e w' => e = .returned (.tuple #[]) ∧ PI w0 w' P G cap s i d (lo ++ [g.nextWay]) := by
  obtain ⟨ρ, vs, H1, hf⟩ := H
  obtain ⟨a, b, ha, hb, ra, rb⟩ := H1.last
  obtain ⟨asl, hao, has, har⟩ := ra
  obtain ⟨bs, hbo, hbs, hbr⟩ := rb
  obtain ⟨A, ca, hav, hcapa, hcapa2⟩ := own_form hao
  obtain ⟨B, cb, hbv, hcapb, hcapb2⟩ := own_form hbo
  subst hav; subst hbv
  have h1 := hok.ways; have h2 := hok.row
  have hbd : Below w.heap.size w w.drew := (Below.refl _ w).drew
  have hkd := Kb.of_below (fun _ => False) hbd
  have hbl : g.row.length = bs.length := hbs.1
  have HC := Lib.hid (cat_q (fun i => ρ i = 0) cb g.row.length B bs g.row w.drew (own_row (own_kb hbo hkd (fun _ _ h => h))) ⟨hbs.1, fun j x y h1 h2 => ndq_kb (hbs.2 j x y h1 h2) hkd (fun _ _ h => h.elim)⟩ hbl.symm hcapb hcapb2 (by omega) hok.szr')
  obtain ⟨k2, hk2⟩ : ∃ k2, k2 = lo.length * 2 := ⟨_, rfl⟩
  rw [← hk2] at ha hb har ⊢
  have q1 := H1.cell ha
  have q2 := H1.cell hb
  obtain ⟨m, hm⟩ : ∃ m, m = g.ways.length := ⟨_, rfl⟩
  rw [← hm] at hao hcapa h1 q1 ha har
  obtain ⟨n, hn⟩ : ∃ n, n = g.row.length := ⟨_, rfl⟩
  rw [← hn] at HC q2 hcapb hb
  have HK2 := Lib.hid hk2; have HM := Lib.hid hm
  obtain ⟨i0, hi0, hz0, hz1, hz2⟩ := info_parts Try.info23
  have HI := Lib.hid hi0; have HZ0 := Lib.hid hz0; have HZ1 := Lib.hid hz1; have HZ2 := Lib.hid hz2
  clear hi0 hz0 hz1 hz2
  have HX := Lib.hid H1; have HF := Lib.hid hf; have HA := Lib.hid ha; have HBB := Lib.hid hb; have HAO := Lib.hid hao; have HAS := Lib.hid has; have HAR := Lib.hid har
  have HLn := Lib.hid H1.lenv
  clear H1 hf ha hb hbo hbs hbr hao has har hk2 hm hn hbl hbd hkd h2 hok
  go_enter Try.func46, Try.ntmps46
  go_wp2_with fail
  go_region_law (first | (go_simp; go_at_call 13; (with_reducible refine HC.out.mono ?_); rintro e w2 ⟨nb, rfl, y1, y2⟩; have hX2 := HX.out.below (below_tr ((Below.refl _ w).drew) y2 (Nat.le_refl _)); have hk2' := Kb.of_below (fun _ => False) (below_tr ((Below.refl _ w).drew) y2 (Nat.le_refl _)); have ho2 : w2.ownsRow 0 23 1 (.slice A m ca) m (asl.map ptr) := own_kb HAO.out hk2' (fun _ _ h => h); have e2 : w2.cell? ⟨G, k2, none⟩ = some (.slice A m ca) := hX2.cell HA.out; have e2a : ∀ o : Obj, (w2.alloc o).cell? ⟨G, k2, none⟩ = some (.slice A m ca) := fun o => (hX2.below ((Below.refl _ w2).alloc (Nat.le_refl _) o)).cell HA.out) | (refine step_append_lies _ (by rfl) _ _ _ (by rfl) 0 23 i0 _ 1 8 Try.underlying47 HI.out HZ0.out HZ1.out HZ2.out rfl (by omega) (.slice A m ca) m (asl.map ptr) (by rfl) (ho2.alloc _) ⟨w2.heap.size, 0, none⟩ 1 1 [ptr nb] (by rfl) (by rfl) (World.news_of_block (cs := #[ptr nb]) (t := 23) (fr := (0, 0)) (heap_alloc_new w2 _)) (by simp [Value.oneCell']) (by omega) (by unfold maxLen; omega) (by omega) (by simp) (w2.heap.size + 1) (by simp) ?_; intro gg cap6 w6 hown6 hgrow6 hat6 hlt6; have hg6 := grown_kb hgrow6; have hne : ¬ some G = (Value.slice A m ca).ownBlock := (fun he => by have h1 := HAR.out G he.symm; rw [HX.out.rG] at h1; omega); have ef6 : w6.frozen? ⟨G, k2, none⟩ = false := (far_cell (a := ⟨G, k2, none⟩) hg6 hX2.ltG hne).2.trans (hX2.frozen k2); have ec6 : w6.cell? ⟨G, k2, none⟩ = some (.slice A m ca) := (far_cell (a := ⟨G, k2, none⟩) hg6 hX2.ltG hne).1.trans e2))
  all_goals
    obtain ⟨ρ', hp, hf'⟩ := hX2.app (r := catR g.row) (fun i hi => HF.out i (Nat.le_trans hk2'.size hi)) HA.out ⟨HAS.out.1, fun j x y h1 h2 => ndq_kb (HAS.out.2 j x y h1 h2) hk2' (fun _ _ h => h.elim)⟩ HAR.out (by rw [← HM.out]; exact ho2) (ndq_fresh (w := w) HF.out y1) hg6 (by rw [← HM.out]; exact hown6) rfl (hat6.imp id (fun h => by omega))
    have hln := HLn.out
    rw [List.length_append, List.length_singleton] at hln
    have hp2 := (hp.hole (h := 3 + (k2 + 1))).set (c := k2 + 1) (v := .slice none 0 0) (rs := []) (by rw [List.length_set, HK2.out]; omega) (RwAt.nil _ _ _)
    have ef7 := hp.frozen (k2 + 1)
    have ec7 := hp.cell (c := k2 + 1) (v := .slice B n cb) (by rw [List.getElem?_set_ne (by omega)]; exact HBB.out)
    have HFin := Lib.hid (show PI w0 ((w6.setCell ⟨G, k2, none⟩ (.slice (some ⟨gg, 0, none⟩) (m + 1) cap6)).setCell ⟨G, k2 + 1, none⟩ (.slice none 0 0)) P G cap s i d (lo ++ [g.nextWay]) from ⟨ρ', _, by
      have e1 : ((flatG (lo ++ [g])).set k2 (g.ways ++ [catR g.row])).set (k2 + 1) [] = flatG (lo ++ [g.nextWay]) := by
        rw [HK2.out, flatG_set_ways, flatG_set_row]; rfl
      have e2 : (lo ++ [g]).length = (lo ++ [g.nextWay]).length := by simp
      rw [← e1, ← e2]; exact hp2, fun i hi => hf' i (by simpa [World.setCell] using hi)⟩)
    clear hown6 hgrow6 hat6 hlt6 hg6 hp hf' hX2 hk2' ho2 e2 e2a ef6 ec6 y1 y2 hp2 hln
    try go_wp2
    first | go_ret | go_end0
    exact ⟨rfl, HFin.out⟩
end Go.Proofs.Ytejdfpieblkapaa
