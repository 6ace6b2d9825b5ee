/- An argument that is a slice of acts, read as a list of acts; whether they are great. -/
import Derived.Test.YtpifobaejmfppaaN20
import Derived.Test.YtpifobaejmfppaaOpen
namespace Go.Proofs.Ytpifobaejmfppaa
open Go.ChangeShapes Go.WideShapes Go.ChangeAt Go.RowKit Go.Deep

/-- An act as data, with where its edits lie. -/
structure Ac where
  k : Int
  f : Int
  t : Int
  s : ByteArray
  A : Option Addr
  len : Nat
  cap : Nat
  l : List Ed
  deriving Inhabited

def Cell5 (w : World) (B : Nat) (p : Addr) (a : Ac) : Prop :=
  w.cell? p = some (.int .i64 a.k) ∧ w.cell? ⟨p.block, p.off + 1, none⟩ = some (.int .i64 a.f) ∧ w.cell? ⟨p.block, p.off + 2, none⟩ = some (.int .i64 a.t) ∧ w.cell? ⟨p.block, p.off + 3, none⟩ = some (.string a.s) ∧ w.cell? ⟨p.block, p.off + 4, none⟩ = some (.slice a.A a.len a.cap) ∧ a.l.length = a.len ∧ a.len ≤ a.cap ∧ a.cap ≤ 9223372036854775807 ∧ EdsAt w B a.A a.l

/-- The slice that begins at A holds the acts l, in blocks below B. -/
def AcsAt (w : World) (B : Nat) (A : Option Addr) (l : List Ac) : Prop :=
  ∀ i a, l[i]? = some a → ∃ ad, A = some ad ∧ ad.block < B ∧ Cell5 w B (ad.add (i * 5)) a

theorem AcsAt.below {w w' : World} {B : Nat} {A : Option Addr} {l : List Ac} (h : AcsAt w B A l) (hb : Below B w w') : AcsAt w' B A l := by
  intro i a hi
  obtain ⟨ad, h1, h2, c0, c1, c2, c3, c4, r1, r2, r3, r4⟩ := h i a hi
  have hbl : (ad.add (i * 5)).block < B := by rw [add_block]; exact h2
  exact ⟨ad, h1, h2, (hb.cell hbl).trans c0, (hb.cell (p := ⟨_, _, none⟩) hbl).trans c1, (hb.cell (p := ⟨_, _, none⟩) hbl).trans c2, (hb.cell (p := ⟨_, _, none⟩) hbl).trans c3, (hb.cell (p := ⟨_, _, none⟩) hbl).trans c4, r1, r2, r3, r4.below hb⟩

theorem Try.cells52 : Try.prog.cellsOf 52 = 5 := by kernel_rfl
theorem Try.cells22 : Try.prog.cellsOf 22 = 1 := by kernel_rfl

theorem five_of {α : Type} {l : List α} (h : l.length = 5) : ∃ a b c d e, l = [a, b, c, d, e] := by
  match l, h with
  | [a, b, c, d, e], _ => exact ⟨a, b, c, d, e, rfl⟩

set_option maxRecDepth 100000 in
theorem open_eds1 {H : Type} {enc : TypeId × Value → H} {W : World} {fuel : Nat} {v : Value} {x : DataW H × List MemPlace} (hf : DataW.trod enc Try.prog W 0 (fun _ => true) true fuel 22 [v] = some x) :
    ∃ (A : Option Addr) (len cap : Nat) (l : List Ed), v = .slice A len cap ∧ l.length = len ∧ len ≤ cap ∧ cap ≤ 9223372036854775807 ∧ EdsAt W W.heap.size A l := by
  rcases open_slice Try.underlying22 hf with ⟨hcs, _⟩ | ⟨a, len', cap', m, n, D, Pl, hcs, _, hl, hm, hmm, _, hi⟩
  · simp only [List.cons.injEq, and_true] at hcs
    exact ⟨none, 0, 0, [], hcs, rfl, Nat.le_refl _, by omega, EdsAt.nil _ _ _⟩
  · simp only [List.cons.injEq, and_true] at hcs
    rw [Try.cells35] at hi
    obtain ⟨E, hE⟩ := choose_lt (α := Ed) (n := len') (p := fun i e => Cell3 W (a.add (i * 3)) e) (fun i hil => by
      obtain ⟨cs', h1, h2⟩ := hi i (by rw [hmm]; simp; omega)
      obtain ⟨e, he, _⟩ := open_ed h1 h2
      exact ⟨e, he⟩)
    refine ⟨some a, len', cap', (List.range len').map E, hcs, by simp, hl, by unfold maxLen at hm; omega, ?_⟩
    intro i e he
    have hil : i < len' := by
      have := (List.getElem?_eq_some_iff.1 he).1
      simpa using this
    have he' : E i = e := by
      rw [List.getElem?_map, List.getElem?_range hil] at he
      simpa using he
    subst he'
    have hc := hE i hil
    refine ⟨a, rfl, ?_, hc⟩
    have := World.block_lt_of_cell? W _ hc.1
    rwa [add_block] at this

set_option maxRecDepth 100000 in
theorem open_ac {H : Type} {enc : TypeId × Value → H} {W : World} {fuel : Nat} {p : Addr} {cs : List Value} {x : DataW H × List MemPlace} (hc : W.cells? 0 p 5 = some cs)
    (h : DataW.trod enc Try.prog W 0 (fun _ => true) true fuel 52 cs = some x) : ∃ a : Ac, Cell5 W W.heap.size p a := by
  obtain ⟨xs, n, _, rfl, hl, hlen, hf⟩ := DataW.trod_struct Try.underlying52 h
  obtain ⟨a, b, c, d, e, rfl⟩ := five_of (hl.trans Try.cells52)
  obtain ⟨y0, y1, y2, y3, y4, rfl⟩ := five_of hlen
  obtain ⟨_, _, hat⟩ := World.cells?_some hc
  have h0 : DataW.trod enc Try.prog W 0 (fun _ => true) true n 3 [a] = some y0 := by simpa [Try.cells3] using hf 0 _ rfl
  have h1 : DataW.trod enc Try.prog W 0 (fun _ => true) true n 3 [b] = some y1 := by simpa [Try.cells3] using hf 1 _ rfl
  have h2 : DataW.trod enc Try.prog W 0 (fun _ => true) true n 3 [c] = some y2 := by simpa [Try.cells3] using hf 2 _ rfl
  have h3 : DataW.trod enc Try.prog W 0 (fun _ => true) true n 9 [d] = some y3 := by simpa [Try.cells9] using hf 3 _ rfl
  have h4 : DataW.trod enc Try.prog W 0 (fun _ => true) true n 22 [e] = some y4 := by simpa [Try.cells22] using hf 4 _ rfl
  obtain ⟨k, e0, _, _⟩ := DataW.trod_int Try.underlying3 h0
  obtain ⟨f, e1, _, _⟩ := DataW.trod_int Try.underlying3 h1
  obtain ⟨t, e2, _, _⟩ := DataW.trod_int Try.underlying3 h2
  obtain ⟨s, e3, _, hs⟩ := DataW.trod_string Try.underlying9 h3
  obtain ⟨A, len, cap, l, e4, r1, r2, r3, r4⟩ := open_eds1 h4
  simp only [List.cons.injEq, and_true] at e0 e1 e2 e3
  subst e0 e1 e2 e3 e4
  have c0 := hat 0 (by omega)
  have c1 := hat 1 (by omega)
  have c2 := hat 2 (by omega)
  have c3 := hat 3 (by omega)
  have c4 := hat 4 (by omega)
  simp only [Addr.add, if_true, List.getElem?_cons_zero, List.getElem?_cons_succ] at c0 c1 c2 c3 c4
  exact ⟨⟨k, f, t, s, A, len, cap, l⟩, c0, by simpa using c1, by simpa using c2, by simpa using c3, by simpa using c4, r1, r2, r3, r4⟩

set_option maxRecDepth 100000 in
theorem open_acs {H : Type} {enc : TypeId × Value → H} {W : World} {v : Value} {d : DataW H} {ps : List MemPlace} {base : Nat} (hv : Value.okWide Try.prog W .any base 45 v)
    (h : DataW.Trod enc Try.prog W 0 (fun _ => true) true 45 v d ps) :
    ∃ (A : Option Addr) (len cap : Nat) (l : List Ac), v = .slice A len cap ∧ l.length = len ∧ len ≤ cap ∧ cap ≤ 9223372036854775807 ∧ AcsAt W W.heap.size A l := by
  obtain ⟨A, len, cap, rfl⟩ := okWide_slice Try.underlying45 hv
  obtain ⟨fuel, hf⟩ := h
  rcases open_slice Try.underlying45 hf with ⟨hcs, _⟩ | ⟨a, len', cap', m, n, D, Pl, hcs, _, hl, hm, hmm, _, hi⟩
  · simp [Value.cells] at hcs
    obtain ⟨rfl, rfl, rfl⟩ := hcs
    exact ⟨none, 0, 0, [], rfl, rfl, Nat.le_refl _, by omega, fun i e he => by simp at he⟩
  · simp [Value.cells] at hcs
    obtain ⟨rfl, rfl, rfl⟩ := hcs
    rw [Try.cells52] at hi
    obtain ⟨E, hE⟩ := choose_lt (α := Ac) (n := len) (p := fun i e => Cell5 W W.heap.size (a.add (i * 5)) e) (fun i hil => by
      obtain ⟨cs', h1, h2⟩ := hi i (by rw [hmm]; simp; omega)
      exact open_ac h1 h2)
    refine ⟨some a, len, cap, (List.range len).map E, rfl, by simp, hl, by unfold maxLen at hm; omega, ?_⟩
    intro i e he
    have hil : i < len := by
      have := (List.getElem?_eq_some_iff.1 he).1
      simpa using this
    have he' : E i = e := by
      rw [List.getElem?_map, List.getElem?_range hil] at he
      simpa using he
    subst he'
    have hc := hE i hil
    refine ⟨a, rfl, ?_, hc⟩
    have := World.block_lt_of_cell? W _ hc.1
    rwa [add_block] at this

/-- Is there more than is asked of? -/
def greatA (l : List Ac) : Bool := l.any (fun a => decide (100 < a.s.size) || greatB a.l) || decide (60 < l.length)

set_option maxRecDepth 100000 in
set_option maxHeartbeats 1000000 in
theorem great2_any (A : Option Addr) (len cap : Nat) (l : List Ac) (w : World) (hlen : l.length = len) (hl : len ≤ cap) (hcap : cap ≤ 9223372036854775807) (hE : AcsAt w w.heap.size A l) :
    Calls Try.prog 26 #[.slice A len cap] w fun e w' => e = .returned (.bool (greatA l)) ∧ w = w' := by
  have HL := Lib.hid hlen; clear hlen
  go_enter Try.func26, Try.ntmps26
  go_wp2_with fail
  go_loopw [3] (fun i wr => ∃ (k : Nat), k ≤ len ∧ i = .int .i64 k ∧ Hid ((l.drop k).any (fun a => decide (100 < a.s.size) || greatB a.l) = l.any (fun a => decide (100 < a.s.size) || greatB a.l)) ∧ w = wr) (fun i _ => len - (intOf i).toNat)
  case atStart => exact ⟨0, Nat.zero_le _, rfl, rfl, rfl⟩
  case round =>
    obtain ⟨k, hk, rfl, HR, rfl⟩ := hrel
    by_cases hlt : k < len
    · obtain ⟨a, ha⟩ := get_some l k (by rw [HL.out]; exact hlt)
      have HD := Lib.hid (drop_cons_of ha)
      obtain ⟨ad, rfl, hab, c0, c1, c2, c3, c4, r1, r2, r3, r4⟩ := hE k a ha
      have HAN := Lib.hid (show l.any (fun a => decide (100 < a.s.size) || greatB a.l) = ((decide (100 < a.s.size) || greatB a.l) || (l.drop (k + 1)).any (fun a => decide (100 < a.s.size) || greatB a.l)) by rw [← HR.out, HD.out, List.any_cons])
      clear ha
      have HG := Lib.hid (great_any a.A a.len a.cap a.l w r1 r2 r3 r4)
      clear r1 r4
      by_cases t1 : 100 < a.s.size
      · have q1 : decide ((100 : Int) < (a.s.size : Int)) = true := by simp; omega
        go_wp2
        go_ret
        refine ⟨ret_bool ?_, rfl⟩
        rw [greatA, HAN.out]; simp [t1]
      · have q1 : decide ((100 : Int) < (a.s.size : Int)) = false := by simp; omega
        go_wp2_with fail
        refine HG.out.mono ?_
        rintro e w1 ⟨rfl, rfl⟩
        cases hg : greatB a.l with
        | true =>
          have HGB := Lib.hid hg
          clear hg
          go_wp2
          go_ret
          refine ⟨ret_bool ?_, rfl⟩
          rw [greatA, HAN.out, HGB.out]; simp
        | false =>
          have HGB := Lib.hid hg
          clear hg
          go_wp2
          go_roundw
          case rel => exact ⟨k + 1, by omega, by go_num, by show _ = _; rw [HAN.out, HGB.out]; simp [t1], trivial⟩
          case measure => simp [intOf]; omega
    · have hN : l.any (fun a => decide (100 < a.s.size) || greatB a.l) = false := by
        rw [← HR.out, List.drop_of_length_le (by rw [HL.out]; omega)]; rfl
      have HN := Lib.hid hN; clear hN
      go_wp2
      go_ret
      refine ⟨ret_bool ?_, rfl⟩
      rw [greatA, HN.out, HL.out]; simp; omega
end Go.Proofs.Ytpifobaejmfppaa
