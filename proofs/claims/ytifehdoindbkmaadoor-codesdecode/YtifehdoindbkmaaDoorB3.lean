/- What codes.ahead does with a hand; First, Size and Decode. -/
import Derived.Test.YtifehdoindbkmaaDoorB2
import Derived.Deep.AppendLies
namespace Go.Proofs.YtifehdoindbkmaaDoor
open Go.RowKit

/-- The code points from the beginning on, and where none begins. -/
def decF : Nat → List UInt8 → List Int × Nat
  | 0, _ => ([], 0)
  | f + 1, l => match stp l with
    | some (n, k) => ((n : Int) :: (decF f (l.drop k)).1, k + (decF f (l.drop k)).2)
    | none => ([], 0)
theorem decF_same : ∀ (f g : Nat) (l : List UInt8), l.length < f → l.length < g → decF f l = decF g l
  | 0, _, _, h, _ => absurd h (Nat.not_lt_zero _)
  | _, 0, _, _, h => absurd h (Nat.not_lt_zero _)
  | f + 1, g + 1, l, h, h' => by
    simp only [decF]
    cases hs : stp l with
    | none => rfl
    | some q =>
      obtain ⟨n, k⟩ := q
      have hk := stp_len hs
      have := decF_same f g (l.drop k) (by rw [List.length_drop]; omega) (by rw [List.length_drop]; omega)
      simp only [this]
def dec (l : List UInt8) : List Int × Nat := decF (l.length + 1) l
theorem dec_none {l : List UInt8} (h : stp l = none) : dec l = ([], 0) := by
  unfold dec decF; rw [h]
theorem dec_some {l : List UInt8} {n k : Nat} (h : stp l = some (n, k)) : dec l = ((n : Int) :: (dec (l.drop k)).1, k + (dec (l.drop k)).2) := by
  have hk := stp_len h
  have e : decF l.length (l.drop k) = dec (l.drop k) := by
    unfold dec
    exact decF_same _ _ _ (by rw [List.length_drop]; omega) (by omega)
  rw [dec, decF, h]
  simp only [e]

theorem dec_flat : ∀ (l : List UInt8) (n : Nat), l.length ≤ n → (∀ z ∈ (dec l).1, okN z = true) ∧ flat (dec l).1 = l.take (dec l).2 ∧ (dec l).2 ≤ l.length ∧ stp (l.drop (dec l).2) = none := by
  intro l n
  induction n generalizing l with
  | zero =>
    intro h
    have : l = [] := List.eq_nil_of_length_eq_zero (by omega)
    subst this
    rw [dec_none stp_nil]
    exact ⟨by simp, rfl, by simp, rfl⟩
  | succ n ih =>
    intro h
    cases hs : stp l with
    | none =>
      rw [dec_none hs]
      exact ⟨by simp, rfl, by simp, by simpa using hs⟩
    | some q =>
      obtain ⟨m, k⟩ := q
      have hk := stp_len hs
      obtain ⟨i1, i2, i3, i4⟩ := ih (l.drop k) (by rw [List.length_drop]; omega)
      obtain ⟨o1, o2, o3⟩ := stp_some hs
      rw [dec_some hs]
      refine ⟨?_, ?_, ?_, ?_⟩
      · intro z hz
        simp only [List.mem_cons] at hz
        rcases hz with rfl | hz
        · exact o1
        · exact i1 z hz
      · rw [flat_cons, i2, Int.toNat_natCast, List.take_add]
        have : enc m = l.take k := by rw [o2]; conv => rhs; rw [o3, ← o2]
                                      rw [o2, List.take_left]
        rw [this]
      · rw [List.length_drop] at i3; omega
      · rw [← List.drop_drop] ; exact i4

/-- Code points' bytes are decoded to what they were. -/
theorem dec_of_flat : ∀ (m : List Int) (r : List UInt8), (∀ z ∈ m, okN z = true) → dec (flat m ++ r) = (m ++ (dec r).1, (flat m).length + (dec r).2)
  | [], r, _ => by simp [flat]
  | z :: m, r, h => by
    have hz := h z (by simp)
    have h0 : 0 ≤ z := (okN_iff.1 hz).1
    have hs := stp_enc z.toNat (flat m ++ r) (by rw [Int.toNat_of_nonneg h0]; exact hz)
    rw [flat_cons, List.append_assoc, dec_some hs, List.drop_left, dec_of_flat m r (fun x hx => h x (by simp [hx])), Int.toNat_of_nonneg h0, List.length_append]
    simp only [List.cons_append, Nat.add_assoc]

theorem dec_nil : dec [] = ([], 0) := rfl

/-- A hand of ahead: called with a code point it goes on from what it has to one more. -/
def HandOk (fn : Nat) (caps : Array Value) (I : List Int → World → Prop) (B M : Nat) : Prop :=
  ∀ (l : List Int) (n : Int) (w : World), I l w → l.length < M → B ≤ w.heap.size → Calls Tryd.prog fn (#[.int .i64 n] ++ caps) w fun e w' => e = .returned (.tuple #[]) ∧ I (l ++ [n]) w' ∧ Below B w w'

set_option maxRecDepth 100000 in
set_option maxHeartbeats 2000000 in
theorem ahead_any (s : ByteArray) (fn : Nat) (caps : Array Value) (I : List Int → World → Prop) (B : Nat) (w : World) (hs : s.size ≤ 1000000) (hT : LenT w) (hB0 : 0 < B) (hBw : B ≤ w.heap.size) (hI : I [] w)
    (hH : HandOk fn caps I B (s.size + 1)) (hIb : ∀ l w1 w2, I l w1 → Below w1.heap.size w1 w2 → I l w2)
    (hcf : ∀ (args : Array Value) (w : World), Sem.run Tryd.prog (callFunc fn args) w = .ok (.enter fn args) w) :
    Calls Tryd.prog 40 #[.string s, .func (.func fn) #[] caps] w fun e w' => e = .returned (.int .i64 (dec s.data.toList).2) ∧ I (dec s.data.toList).1 w' ∧ Below B w w' := by
  obtain ⟨L, hL⟩ : ∃ L, L = s.data.toList := ⟨_, rfl⟩
  have hlen : L.length = s.size := by rw [hL, ← Lib.size_eq]
  rw [← hL]
  have HLN := Lib.hid hlen; have HL := Lib.hid hL; have HH := Lib.hid hH; have HIB := Lib.hid hIb; have HI := Lib.hid hI
  clear hlen hL hH hIb hI
  go_enter Tryd.func40, Tryd.ntmps40
  go_wp2_with fail
  go_loopw [5] (fun p wr => ∃ (i : Nat) (m : List Int), i ≤ s.size ∧ m.length ≤ i ∧ p = .int .i64 i ∧ Hid (m ++ (dec (L.drop i)).1 = (dec L).1) ∧ Hid (i + (dec (L.drop i)).2 = (dec L).2) ∧ Hid (I m wr) ∧ Below B w wr) (fun p _ => s.size + 1 - (intOf p).toNat)
  case atStart => exact ⟨0, [], by omega, by simp, rfl, by show _ = _; simp, by show _ = _; simp, HI.out, Below.refl _ _⟩
  case round =>
    obtain ⟨i, m, hi, hmi, rfl, HM, HN, HIr, hb⟩ := hrel
    have hTr : LenT wr := hT.below hb hB0
    have hsz := hb.size
    by_cases hlt : i < s.size
    · have HC := step_in s i wr hlt (by omega) hTr
      rw [← HL.out] at HC
      cases hs' : stp (L.drop i) with
      | some q =>
        obtain ⟨c, k⟩ := q
        have hk := stp_len hs'
        rw [List.length_drop, HLN.out] at hk
        rw [stpV_some hs'] at HC
        have hds := dec_some hs'
        rw [List.drop_drop] at hds
        have HD := Lib.hid hds
        clear hds hs'
        obtain ⟨hk1, hk2, hk3⟩ := hk
        go_wp2_with fail
        refine HC.mono ?_
        rintro e w1 ⟨rfl, hb1⟩
        have HI1 := Lib.hid (HIB.out _ _ _ HIr.out hb1)
        have hb2 := hb.trans (hb1.mono (by omega))
        have hz1 := hb1.size
        clear HC hb1
        go_wp2_with fail
        refine (HH.out m c w1 HI1.out (by omega) (by omega)).mono ?_
        rintro e w2 ⟨rfl, hI2, hb3⟩
        have HI2 := Lib.hid hI2; clear hI2
        go_wp2
        go_roundw
        case rel =>
          refine ⟨i + k, m ++ [(c : Int)], by omega, by simp; omega, by go_num, ?_, ?_, HI2.out, hb2.trans hb3⟩
          · show _ = _
            rw [← HM.out, HD.out]; simp
          · show _ = _
            rw [← HN.out, HD.out]; simp only; omega
        case measure => simp [intOf]; omega
      | none =>
        rw [stpV_none hs'] at HC
        have hds := dec_none hs'
        have HD := Lib.hid hds
        clear hds hs'
        go_wp2_with fail
        refine HC.mono ?_
        rintro e w1 ⟨rfl, hb1⟩
        have HI1 := Lib.hid (HIB.out _ _ _ HIr.out hb1)
        have hb2 := hb.trans (hb1.mono (by omega))
        clear HC hb1
        go_wp2
        go_ret
        refine ⟨ret_int ?_, ?_, hb2⟩
        · rw [← HN.out, HD.out]; rfl
        · rw [← HM.out, HD.out, List.append_nil]; exact HI1.out
    · have HC := step_out s i wr (.inr (by omega))
      have hds : dec (L.drop i) = ([], 0) := by rw [List.drop_of_length_le (by rw [HLN.out]; omega)]; rfl
      have HD := Lib.hid hds
      clear hds
      go_wp2_with fail
      refine HC.mono ?_
      rintro e w1 ⟨rfl, rfl⟩
      clear HC
      go_wp2
      go_ret
      refine ⟨ret_int ?_, ?_, hb⟩
      · rw [← HN.out, HD.out]; rfl
      · rw [← HM.out, HD.out, List.append_nil]; exact HIr.out

theorem cf_of {f : FuncId} {fn : Func} (hf : Tryd.prog.funcs[f]? = some fn) (hname : (fn.name == "runtime.NumGoroutine") = false) (hb : fn.body.isSome = true) (args : Array Value) (w : World) : Sem.run Tryd.prog (callFunc f args) w = .ok (.enter f args) w := by
  obtain ⟨c, hc⟩ := Option.isSome_iff_exists.1 hb
  have h1 : fn.name ≠ "runtime.NumGoroutine" := by simpa using hname
  simp [callFunc, hf, h1, hc]
theorem cf41 (args : Array Value) (w : World) : Sem.run Tryd.prog (callFunc 41 args) w = .ok (.enter 41 args) w := cf_of Tryd.func41 (by kernel_rfl) (by kernel_rfl) args w
theorem cf45 (args : Array Value) (w : World) : Sem.run Tryd.prog (callFunc 45 args) w = .ok (.enter 45 args) w := cf_of Tryd.func45 (by kernel_rfl) (by kernel_rfl) args w
theorem cf46 (args : Array Value) (w : World) : Sem.run Tryd.prog (callFunc 46 args) w = .ok (.enter 46 args) w := cf_of Tryd.func46 (by kernel_rfl) (by kernel_rfl) args w

/-- First$1: nothing is done. -/
theorem hand45 (B M : Nat) : HandOk 45 #[] (fun _ _ => True) B M := by
  intro l n w _ _ _
  show Calls Tryd.prog 45 #[.int .i64 n] w _
  go_enter Tryd.func45, Tryd.ntmps45
  go_wp2
  go_end0
  exact ⟨rfl, trivial, Below.refl _ _⟩

/-- A block of one cell. -/
def One (w : World) (b : Nat) (t : TypeId) (v : Value) : Prop := w.heap[b]? = some (.cells #[v] t (0, 0))
theorem One.cell {w : World} {b t : Nat} {v : Value} (h : One w b t v) : w.cell? ⟨b, 0, none⟩ = some v := by rw [Lib.cell_of_heap h]; rfl
theorem One.frozen {w : World} {b t : Nat} {v : Value} (h : One w b t v) : w.frozen? ⟨b, 0, none⟩ = false := Lib.frozen_of_heap h 0
theorem One.lt {w : World} {b t : Nat} {v : Value} (h : One w b t v) : b < w.heap.size := (Array.getElem?_eq_some_iff.1 h).1
theorem One.set {w : World} {b t : Nat} {v : Value} (h : One w b t v) (x : Value) : One (w.setCell ⟨b, 0, none⟩ x) b t x := by
  unfold One at h ⊢
  simp [World.setCell, Array.getElem?_modify, h]
theorem One.below {w w' : World} {b t : Nat} {v : Value} (h : One w b t v) (hb : Below w.heap.size w w') : One w' b t v := (hb.block b h.lt).trans h
theorem one_new (w : World) (t : TypeId) (v : Value) : One (w.alloc (.cells #[v] t)) w.heap.size t v := by
  show (w.heap.push _)[w.heap.size]? = _
  simp

/-- Size$1: one more. -/
theorem hand46 (B M b : Nat) (hM : M ≤ 1000001) (hBb : B ≤ b) : HandOk 46 #[.pointer (some ⟨b, 0, none⟩)] (fun l w => One w b 3 (.int .i64 l.length)) B M := by
  intro l n w hI hl hBw
  show Calls Tryd.prog 46 #[.int .i64 n, .pointer (some ⟨b, 0, none⟩)] w _
  have c0 := hI.cell
  have f0 := hI.frozen
  have HI := Lib.hid hI; clear hI
  go_enter Tryd.func46, Tryd.ntmps46
  go_wp2
  go_end0
  refine ⟨rfl, ?_, (Below.refl B w).setCell hBb _⟩
  have := HI.out.set (.int .i64 ((l.length : Int) + 1))
  rw [List.length_append, List.length_singleton]
  exact this

theorem Tryd.info3 : (Tryd.prog.info? 3).map (fun i => (i.zero, i.size, i.bytes)) = some (some (.int .i64 0), 1, 8) := by kernel_rfl

/-- Decode's variable: what is decoded so far. -/
def BoxL (B b : Nat) (l : List Int) (w : World) : Prop := ∃ A c, One w b 41 (.slice A l.length c) ∧ w.ownsRow B 3 1 (.slice A l.length c) l.length (l.map fun z => .int .i64 z)

theorem own_ne1 {w : World} {base e size n b t : Nat} {v u : Value} {xs : List Value} (h : w.ownsRow base e size v n xs) (hb : One w b t u) (ht : t ≠ e) : some b ≠ v.ownBlock := by
  rcases h.2 with ⟨rfl, _⟩ | ⟨g, cap, cur, rfl, _, hg, _⟩
  · simp [Value.ownBlock]
  · intro e'
    have : b = g := by simpa [Value.ownBlock] using e'
    subst this
    unfold One at hb
    rw [hg] at hb
    injection hb with hb
    injection hb with _ h2
    exact ht h2.symm

theorem ownsRow_below {w w' : World} {base e size n : Nat} {v : Value} {xs : List Value} (h : w.ownsRow base e size v n xs) (hb : Below w.heap.size w w') : w'.ownsRow base e size v n xs := by
  refine ⟨h.1, h.2.imp id ?_⟩
  rintro ⟨g, cap, cur, rfl, r1, r2, r3⟩
  exact ⟨g, cap, cur, rfl, r1, (hb.block g (Array.getElem?_eq_some_iff.1 r2).1).trans r2, r3⟩

theorem ownsRow_set {w : World} {base e size n b : Nat} {v x : Value} {xs : List Value} (h : w.ownsRow base e size v n xs) (hne : some b ≠ v.ownBlock) : (w.setCell ⟨b, 0, none⟩ x).ownsRow base e size v n xs := by
  refine ⟨h.1, h.2.imp id ?_⟩
  rintro ⟨g, cap, cur, rfl, r1, r2, r3⟩
  have hg : g ≠ b := by rintro rfl; exact hne (by simp [Value.ownBlock])
  exact ⟨g, cap, cur, rfl, r1, (Below.heap_setCell w ⟨b, 0, none⟩ x g hg).trans r2, r3⟩

set_option maxRecDepth 100000 in
set_option maxHeartbeats 2000000 in
theorem hand41 (B M b : Nat) (hM : M ≤ 1000001) (hBb : B ≤ b) : HandOk 41 #[.pointer (some ⟨b, 0, none⟩)] (BoxL B b) B M := by
  intro l n w hI hl hBw
  show Calls Tryd.prog 41 #[.int .i64 n, .pointer (some ⟨b, 0, none⟩)] w _
  obtain ⟨A, c, ho, hr⟩ := hI
  obtain ⟨i0, hi0, hz0, hz1, hz2⟩ := info_parts Tryd.info3
  have HI := Lib.hid hi0; have HZ0 := Lib.hid hz0; have HZ1 := Lib.hid hz1; have HZ2 := Lib.hid hz2
  clear hi0 hz0 hz1 hz2
  have c0 := ho.cell
  have HNE := Lib.hid (own_ne1 hr ho (by decide))
  have hlt := ho.lt
  have HB := Lib.hid ho; have HO := Lib.hid hr
  clear ho hr
  go_enter Tryd.func41, Tryd.ntmps41
  go_wp2_with (at_builtin; refine wpList_append_lies _ rfl _ _ 41 rfl B 3 i0 _ 1 8 Tryd.underlying41 HI.out HZ0.out HZ1.out HZ2.out rfl (by omega) (.slice A l.length c) l.length _ rfl (HO.out.alloc _) ⟨w.heap.size, 0, none⟩ 1 1 [.int .i64 n] rfl rfl (World.news_of_block (cs := #[.int .i64 n]) (t := 3) (fr := (0, 0)) (one_new w 3 _)) (by simp [Value.oneCell']) (by omega) (by unfold maxLen; omega) (by omega) (by simp; omega) (w.heap.size + 1) (by simp) ?_)
  intro gg cap6 w6 hown6 hgrow6 hat6 hlt6
  have hg6 := (World.grownBy_alloc w (.cells #[.int .i64 n] 3) (Value.slice A l.length c).ownBlock).trans hgrow6
  have o6 : One w6 b 41 (.slice A l.length c) := (hg6.block b hlt HNE.out).trans HB.out
  have c6 := o6.cell
  have f6 := o6.frozen
  have HO6 := Lib.hid hown6
  have HG6 := Lib.hid hg6
  have H6 := Lib.hid o6
  clear hown6 hgrow6 hat6 hlt6 hg6 o6 c0
  go_wp2
  go_end0
  have hb6 : Below B w w6 := (Below.refl B w).grown HG6.out hBw (fun k e => (HO.out.lt k e).1)
  refine ⟨rfl, ⟨some ⟨gg, 0, none⟩, cap6, ?_, ?_⟩, hb6.setCell hBb _⟩
  · rw [List.length_append, List.length_singleton]
    exact H6.out.set _
  · rw [List.length_append, List.length_singleton, List.map_append]
    exact ownsRow_set HO6.out (own_ne1 HO6.out H6.out (by decide))

/-- What First answers. -/
def firstI (l : List UInt8) : Int := if (dec l).2 = l.length then -1 else (dec l).2

set_option maxRecDepth 100000 in
set_option maxHeartbeats 2000000 in
theorem first_any (s : ByteArray) (w : World) (hs : s.size ≤ 1000000) (hT : LenT w) :
    Calls Tryd.prog 26 #[.string s] w fun e w' => e = .returned (.int .i64 (firstI s.data.toList)) ∧ Below w.heap.size w w' := by
  obtain ⟨d, hd⟩ : ∃ d, d = (dec s.data.toList).2 := ⟨_, rfl⟩
  have HC := ahead_any s 45 #[] (fun _ _ => True) w.heap.size w hs hT hT.1 (Nat.le_refl _) trivial (hand45 _ _) (fun _ _ _ _ _ => trivial) cf45
  rw [← hd] at HC
  by_cases he : d = s.size
  · have q1 : ((d : Int) == (s.size : Int)) = true := by rw [beq_iff_eq]; omega
    have HF : Hid (firstI s.data.toList = -1) := by
      show _ = _
      unfold firstI
      rw [if_pos (by rw [← hd, ← Lib.size_eq]; exact he)]
    clear he hd
    go_enter Tryd.func26, Tryd.ntmps26
    go_wp2_with fail
    refine HC.mono ?_
    rintro e w1 ⟨rfl, _, hb⟩
    clear HC
    go_wp2
    go_ret
    exact ⟨by rw [HF.out]; rfl, hb⟩
  · have q1 : ((d : Int) == (s.size : Int)) = false := by rw [beq_eq_false_iff_ne]; omega
    have HF : Hid (firstI s.data.toList = d) := by
      show _ = _
      unfold firstI
      rw [if_neg (by rw [← hd, ← Lib.size_eq]; exact he), ← hd]
    clear he hd
    go_enter Tryd.func26, Tryd.ntmps26
    go_wp2_with fail
    refine HC.mono ?_
    rintro e w1 ⟨rfl, _, hb⟩
    clear HC
    go_wp2
    go_ret
    exact ⟨by rw [HF.out]; rfl, hb⟩

set_option maxRecDepth 100000 in
set_option maxHeartbeats 2000000 in
theorem size_any (s : ByteArray) (w : World) (hs : s.size ≤ 1000000) (hT : LenT w) :
    Calls Tryd.prog 27 #[.string s] w fun e w' => e = .returned (.int .i64 (dec s.data.toList).1.length) ∧ Below w.heap.size w w' := by
  obtain ⟨d, hd⟩ : ∃ d, d = (dec s.data.toList).1 := ⟨_, rfl⟩
  rw [← hd]
  have hb0 : Below w.heap.size w (w.alloc (.cells #[.int .i64 0] 3)) := (Below.refl _ w).alloc (Nat.le_refl _) _
  have HC := ahead_any s 46 #[.pointer (some ⟨w.heap.size, 0, none⟩)] (fun l W => One W w.heap.size 3 (.int .i64 l.length)) w.heap.size (w.alloc (.cells #[.int .i64 0] 3)) hs (hT.below hb0 hT.1) hT.1 (by simp) (one_new w 3 _) (hand46 _ _ _ (by omega) (Nat.le_refl _)) (fun _ _ _ h hb => h.below hb) cf46
  rw [← hd] at HC
  have HB0 := Lib.hid hb0
  clear hd hb0
  go_enter Tryd.func27, Tryd.ntmps27
  go_wp2_with fail
  refine HC.mono ?_
  rintro e w1 ⟨rfl, ho, hb⟩
  have c0 := ho.cell
  clear HC ho
  go_wp2
  go_ret
  exact ⟨rfl, HB0.out.trans hb⟩

/-- What Decode answers. -/
def DecAt (s : ByteArray) (w : World) (e : Ending) (w' : World) : Prop :=
  Below w.heap.size w w' ∧ (((dec s.data.toList).2 < s.size ∧ e = .returned (.tuple #[.slice none 0 0, .int .i64 (dec s.data.toList).2, .int .i64 5])) ∨
    ((dec s.data.toList).2 = s.size ∧ ∃ A c, e = .returned (.tuple #[.slice A (dec s.data.toList).1.length c, .int .i64 (dec s.data.toList).1.length, .int .i64 0]) ∧ w'.ownsRow w.heap.size 3 1 (.slice A (dec s.data.toList).1.length c) (dec s.data.toList).1.length ((dec s.data.toList).1.map fun z => .int .i64 z)))

set_option maxRecDepth 100000 in
set_option maxHeartbeats 2000000 in
theorem decode_any (s : ByteArray) (w : World) (hs : s.size ≤ 1000000) (hT : LenT w) : Calls Tryd.prog 22 #[.string s] w (DecAt s w) := by
  have hle : (dec s.data.toList).2 ≤ s.size := by
    have := (dec_flat s.data.toList _ (Nat.le_refl _)).2.2.1
    rwa [← Lib.size_eq] at this
  have hb0 : Below w.heap.size w (w.alloc (.cells #[.slice none 0 0] 41)) := (Below.refl _ w).alloc (Nat.le_refl _) _
  have HC := ahead_any s 41 #[.pointer (some ⟨w.heap.size, 0, none⟩)] (BoxL w.heap.size w.heap.size) w.heap.size (w.alloc (.cells #[.slice none 0 0] 41)) hs (hT.below hb0 hT.1) hT.1 (by simp) ⟨none, 0, one_new w 41 _, World.ownsRow_nil _ _ _ _⟩ (hand41 _ _ _ (by omega) (Nat.le_refl _)) (fun l w1 w2 h hb => by
    obtain ⟨A, c, h1, h2⟩ := h
    exact ⟨A, c, h1.below hb, ownsRow_below h2 hb⟩) cf41
  obtain ⟨D, hD⟩ : ∃ D, D = dec s.data.toList := ⟨_, rfl⟩
  have HD := Lib.hid hD
  rw [← hD] at HC hle
  clear hD
  have HB0 := Lib.hid hb0; clear hb0
  obtain ⟨dl, dn⟩ := D
  simp only at HC hle
  by_cases hlt : dn < s.size
  · go_enter Tryd.func22, Tryd.ntmps22
    go_wp2_with fail
    refine HC.mono ?_
    rintro e w1 ⟨rfl, _, hb⟩
    clear HC
    go_wp2
    go_ret3
    refine ⟨HB0.out.trans hb, .inl ?_⟩
    rw [← HD.out]
    exact ⟨by assumption, rfl⟩
  · go_enter Tryd.func22, Tryd.ntmps22
    go_wp2_with fail
    refine HC.mono ?_
    rintro e w1 ⟨rfl, ⟨A, c, ho, hr⟩, hb⟩
    have c0 := ho.cell
    have HO := Lib.hid ho; have HR := Lib.hid hr
    clear HC ho hr
    go_wp2_with fail
    go_quiet (fail)
    go_wp2
    go_ret3
    refine ⟨below_drewN (HB0.out.trans hb) _, .inr ?_⟩
    rw [← HD.out]
    exact ⟨by omega, A, c, rfl, HR.out⟩
end Go.Proofs.YtifehdoindbkmaaDoor
