/- What edits.Turn answers. -/
import Derived.Test.YtpifobaejmfppaaF
import Derived.Deep.RegionHeld3
import Derived.Deep.AppendLies
namespace Go.Proofs.Ytpifobaejmfppaa
open Go.RowKit

def Ed.cells (e : Ed) : List Value := [.int .i64 e.f, .int .i64 e.t, .string e.s]
def edCells (l : List Ed) : List Value := l.flatMap Ed.cells

theorem edCells_append (a b : List Ed) : edCells (a ++ b) = edCells a ++ edCells b := by simp [edCells]

theorem edCells_len (l : List Ed) : (edCells l).length = l.length * 3 := by
  induction l with
  | nil => rfl
  | cons e r ih => rw [show e :: r = [e] ++ r from rfl, edCells_append, List.length_append, ih]; simp [edCells, Ed.cells]; omega

theorem edCells_get : ∀ (l : List Ed) (i : Nat) (e : Ed), l[i]? = some e → (edCells l)[i * 3]? = some (.int .i64 e.f) ∧ (edCells l)[i * 3 + 1]? = some (.int .i64 e.t) ∧ (edCells l)[i * 3 + 2]? = some (.string e.s)
  | [], i, e, h => by simp at h
  | x :: r, 0, e, h => by
    simp at h; subst h
    simp [edCells, Ed.cells]
  | x :: r, i + 1, e, h => by
    have ih := edCells_get r i e (by simpa using h)
    have hc : edCells (x :: r) = [.int .i64 x.f, .int .i64 x.t, .string x.s] ++ edCells r := rfl
    rw [hc]
    refine ⟨?_, ?_, ?_⟩
    · rw [List.getElem?_append_right (by simp; omega)]; rw [← ih.1]; congr 1; simp; omega
    · rw [List.getElem?_append_right (by simp; omega)]; rw [← ih.2.1]; congr 1; simp; omega
    · rw [List.getElem?_append_right (by simp; omega)]; rw [← ih.2.2]; congr 1; simp; omega

theorem add_none (g n : Nat) : (⟨g, 0, none⟩ : Addr).add n = ⟨g, n, none⟩ := by unfold Addr.add; split <;> simp_all

theorem eds_of_own {w : World} {base n : Nat} {A : Option Addr} {c : Nat} {l : List Ed} (h : w.ownsRow base 35 3 (.slice A n c) n (edCells l)) : EdsAt w w.heap.size A l := by
  intro i e he
  obtain ⟨g0, g1, g2⟩ := edCells_get l i e he
  rcases h.2 with ⟨_, hn⟩ | ⟨g, cap, cur, hv, hbg, hg, hr⟩
  · have h1 := h.1
    rw [edCells_len] at h1
    have := (List.getElem?_eq_some_iff.1 he).1
    omega
  · have hA : A = some ⟨g, 0, none⟩ := by injection hv
    subst hA
    have hc := h.cells (g := g) rfl
    have e0 := hc _ _ g0
    have e1 := hc _ _ g1
    have e2 := hc _ _ g2
    rw [add_none] at e0 e1 e2
    have hlt : g < w.heap.size := by
      rcases Nat.lt_or_ge g w.heap.size with h' | h'
      · exact h'
      · simp [Array.getElem?_eq_none h'] at hg
    refine ⟨⟨g, 0, none⟩, rfl, hlt, ?_⟩
    rw [add_none]
    exact ⟨e0, e1, e2⟩

theorem grown_of_below {w w' : World} (h : Below w.heap.size w w') (row : Option Nat) : w.grownBy w' row := ⟨h.os, h.tape, h.output, h.size, fun i hi _ => h.block i hi⟩

theorem own_below {w w' : World} {base e size n : Nat} {v : Value} {xs : List Value} (h : w.ownsRow base e size v n xs) (hb : Below w.heap.size w w') : w'.ownsRow base e size v n xs :=
  h.kept (grown_of_below hb none) (by cases hv : v.ownBlock <;> simp)

theorem own_cap {w : World} {base e size n c : Nat} {A : Option Addr} {xs : List Value} (h : w.ownsRow base e size (.slice A n c) n xs) : n ≤ c ∧ c ≤ 9223372036854775807 := by
  rcases h.2 with ⟨hv, _⟩ | ⟨g, cap, cur, hv, _, _, h1, h2, _⟩
  · injection hv with _ h1 h2; omega
  · injection hv with _ _ h3; subst h3; unfold maxLen at h2; exact ⟨h1, by omega⟩

theorem Try.info35 : (Try.prog.info? 35).map (fun i => (i.zero, i.size, i.bytes)) = some (some (.agg #[.int .i64 0, .int .i64 0, .string ⟨#[]⟩]), 3, 32) := by kernel_rfl

set_option maxHeartbeats 400000 in
theorem clone_any (s : ByteArray) (w : World) (hs : s.size ≤ 281474976710656) :
    Calls Try.prog 44 #[.string s] w fun e w' => e = .returned (.string s) ∧ Below w.heap.size w w' := by
  go_enter Try.func44, Try.ntmps44
  go_wp2_with fail
  refine (Try.stringslite_Clone s _ hs).mono ?_
  rintro e w1 ⟨rfl, hb⟩
  go_wp2
  go_ret
  exact ⟨rfl, hb⟩

set_option maxHeartbeats 400000 in
theorem turn_no (s : ByteArray) (A : Option Addr) (len cap : Nat) (l : List Ed) (w : World) (hlen : l.length = len) (hl : len ≤ cap) (hcap : cap ≤ 9223372036854775807) (_hs : s.size ≤ 9223372036854775807) (hE : EdsAt w w.heap.size A l)
    (hR : rightB 0 s.size l = false) :
    Calls Try.prog 16 #[.string s, .slice A len cap] w fun e w' => e = .returned (.tuple #[.slice none 0 0, .int .i64 2]) ∧ Below w.heap.size w w' := by
  have c1 := Lib.hid (right_any s.size A len cap l w hlen hl hcap hE)
  have HR := Lib.hid hR; clear hR hlen
  go_enter Try.func16, Try.ntmps16
  go_wp2_with fail
  refine c1.out.mono ?_
  rintro e w1 ⟨rfl, hb1⟩
  rw [HR.out]
  go_wp2
  go_ret2
  exact ⟨rfl, hb1⟩

/-- What a call that answers edits in new memory leaves. -/
def EdsBack (B : Nat) (l : List Ed) (er : Int) (w : World) (e : Ending) (w' : World) : Prop :=
  ∃ A c, e = .returned (.tuple #[.slice A l.length c, .int .i64 er]) ∧ l.length ≤ c ∧ c ≤ 9223372036854775807 ∧ w'.ownsRow B 35 3 (.slice A l.length c) l.length (edCells l) ∧ Below B w w'

set_option maxRecDepth 100000 in
set_option maxHeartbeats 3200000 in
theorem turn_yes (s : ByteArray) (A : Option Addr) (len cap : Nat) (l : List Ed) (w : World) (hlen : l.length = len) (hl : len ≤ cap) (hcap : cap ≤ 9223372036854775807) (hsm : len ≤ 1048576) (hE : EdsAt w w.heap.size A l)
    (hR : rightB 0 s.size l = true) (hS : s.size + tot l ≤ 1099511627776) :
    Calls Try.prog 16 #[.string s, .slice A len cap] w (EdsBack w.heap.size (turn s.data.toList 0 l) 0 w) := by
  have c1 := Lib.hid (right_any s.size A len cap l w hlen hl hcap hE)
  have HM := Lib.hid (right_mod hR (by omega) (by omega))
  have HL := Lib.hid hlen; clear hlen
  have HR := Lib.hid hR; clear hR
  obtain ⟨i0, hi0, hz0, hz1, hz2⟩ := info_parts Try.info35
  have HI := Lib.hid hi0
  have HZ0 := Lib.hid hz0
  have HZ1 := Lib.hid hz1
  have HZ2 := Lib.hid hz2
  clear hi0 hz0 hz1 hz2
  go_enter Try.func16, Try.ntmps16
  go_wp2_with fail
  refine c1.out.mono ?_
  rintro e w1 ⟨rfl, hb1⟩
  rw [HR.out]
  have hz1 := hb1.size
  go_wp2_with (at_make; refine wpList_make_own _ rfl _ _ 22 rfl w.heap.size 35 i0 _ 3 Try.underlying22 HI.out HZ0.out HZ1.out .i64 .i64 (len : Int) len rfl rfl rfl (by rw [HZ2.out]; omega) (by unfold maxLen; omega) hz1 ?_)
  intro w2 hown2 hg2
  have hbw2 : Below w.heap.size w w2 := hb1.grown hg2 hz1 (fun g hg => by cases hg)
  clear hg2
  go_wp2_with fail
  go_loopw [6, 7, 21] (fun v m i wr => ∃ (k : Nat) (x : Int) (A' : Option Addr) (c : Nat) (dn : List Ed), k ≤ len ∧ i = .int .i64 k ∧ m = .int .i64 x ∧ v = .slice A' k c ∧ -(k * 1099511627776 : Int) ≤ x ∧ x ≤ (k * 1099511627776 : Int) ∧ Hid (dn.length = k) ∧ Hid (dn ++ turn s.data.toList x (l.drop k) = turn s.data.toList 0 l) ∧ Hid (wr.ownsRow w.heap.size 35 3 (.slice A' k c) k (edCells dn)) ∧ Below w.heap.size w wr) (fun _ _ i _ => len - (intOf i).toNat)
  case atStart => exact ⟨0, 0, _, _, [], Nat.zero_le _, rfl, rfl, rfl, by omega, by omega, rfl, rfl, hown2, hbw2⟩
  case round =>
    clear hbw2 hown2
    obtain ⟨k, x, A', c, dn, hk, rfl, rfl, rfl, x0, x1, HDl, HT, HO, hb⟩ := hrel
    by_cases hlt : k < len
    · obtain ⟨e, he⟩ := get_some l k (by rw [HL.out]; exact hlt)
      have HD := Lib.hid (drop_cons_of he)
      obtain ⟨m1, m2, m3, m4⟩ := HM.out e (List.mem_of_getElem? he)
      have HG := Lib.hid (Ed.Mod.gr ⟨m1, m2, m3, m4⟩)
      obtain ⟨_, _, q3, _⟩ := right_at HR.out he
      obtain ⟨ad, rfl, hab, c0, c1, c2⟩ := (hE.below hb) k e he
      clear he
      have hzb := hb.size
      go_wp2_with fail
      have p1 : IntKind.i64.wrap (e.f + x + (e.s.size : Int)) = e.f + x + (e.s.size : Int) := IntWalk.i64_in _ (by omega)
      have hne := Lib.hid (show (Value.slice A' k c).ownBlock ≠ some wr.heap.size from fun h => by have := (HO.out.lt _ h).2; omega)
      go_region_held3 (fun w' => w'.cell? ⟨wr.heap.size, 0, none⟩ = some (.int .i64 e.f) ∧ w'.cell? ⟨wr.heap.size, 1, none⟩ = some (.int .i64 e.t) ∧ w'.cell? ⟨wr.heap.size, 2, none⟩ = some (.string e.s))
        (first
          | go_keep
          | (go_split_ands; refine ⟨?_, ?_, ?_⟩ <;> (rw [hb5.cell (by simp)]; go_keep))
          | (go_split_ands; refine ⟨?_, ?_, ?_⟩ <;> (rw [hgrow6.cell_far _ (by have := hb5.size; simp at this ⊢; omega) (Ne.symm hne.out)]; assumption)))
        (first
          | (go_at_call 44; refine (clone_any _ _ ?_).mono ?_; (simp only [ByteArray.size_extract]; omega); rintro e' w5 ⟨rfl, hb5⟩)
          | (refine step_append_lies _ (by rfl) _ _ _ (by rfl) w.heap.size 35 i0 _ 3 32 Try.underlying22 HI.out HZ0.out HZ1.out HZ2.out rfl (by omega) (.slice A' k c) k (edCells dn) (by rfl) ((own_below (HO.out.alloc _).drew hb5).alloc _) ⟨w5.heap.size, 0, none⟩ 1 1 [.int .i64 (e.f + x), .int .i64 (e.f + x + (e.s.size : Int)), .string (s.extract e.f.toNat e.t.toNat)] (by rfl) (by rfl) (World.news_of_block (cs := #[.int .i64 (e.f + x), .int .i64 (e.f + x + (e.s.size : Int)), .string (s.extract e.f.toNat e.t.toNat)]) (t := 35) (fr := (0, 0)) (heap_alloc_new w5 _)) (by simp [Value.oneCell']) (by omega) (by unfold maxLen; omega) (by omega) (by have := hb5.size; simp at this ⊢; omega) (w5.heap.size + 1) (by simp) ?_; intro gg cap6 w6 hown6 hgrow6 hat6 hlt6))
      have hb6 : Below w.heap.size w w6 := by
        refine ((below_tr (hb.alloc hzb _).drew hb5 (by simp; omega)).alloc (by have := hb5.size; simp at this ⊢; omega) _).grown hgrow6 (by have := hb5.size; simp at this ⊢; omega) (fun g hg => (HO.out.lt g hg).1)
      go_wp2_with fail
      refine (growth_any _ _ _ _ m1 m2 m3 m4).mono ?_
      rintro e' w7 ⟨rfl, hb7⟩
      have HO7 := Lib.hid (own_below hown6 hb7)
      have hb7' : Below w.heap.size w w7 := below_tr hb6 hb7 hb6.size
      clear hown6 hgrow6 hat6 hb7 hb5 p1
      go_wp2
      go_roundw
      case rel =>
        refine ⟨k + 1, x + e.gr, some ⟨gg, 0, none⟩, cap6, dn ++ [⟨e.f + x, e.f + x + (e.s.size : Int), s.extract e.f.toNat e.t.toNat⟩], by omega, by go_num, by rw [HG.out], rfl, by rw [HG.out]; omega, by rw [HG.out]; omega, ?_, ?_, ?_, hb7'⟩
        · show (_ : Nat) = _
          rw [List.length_append, HDl.out]; rfl
        · show _ = _
          rw [← HT.out, HD.out, turn, Lib.extract_eq, List.append_assoc]; rfl
        · show World.ownsRow _ _ _ _ _ _ _
          rw [edCells_append]; exact HO7.out
      case measure => simp [intOf]; omega
    · go_wp2
      refine bodyPost_ret (v := .tuple #[.slice A' k c, .int .i64 0]) (by simp [results, Try.results16, go_sem]) rfl ?_
      have hkl : k = len := by omega
      have hdn : dn = turn s.data.toList 0 l := by
        rw [← HT.out, List.drop_of_length_le (by rw [HL.out]; omega), turn, List.append_nil]
      have hkn : (turn s.data.toList 0 l).length = k := by rw [← hdn]; exact HDl.out
      have ho := HO.out
      rw [hdn] at ho
      unfold EdsBack
      rw [hkn]
      exact ⟨A', c, rfl, (own_cap ho).1, (own_cap ho).2, ho, hb⟩
end Go.Proofs.Ytpifobaejmfppaa
