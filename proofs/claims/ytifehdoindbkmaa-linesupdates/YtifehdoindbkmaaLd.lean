/- What the index's inner calls answer: lineAt, begin, end; sort.Search by halves. -/
import Derived.Test.YtifehdoindbkmaaLc
namespace Go.Proofs.Ytifehdoindbkmaa
open Go.RowKit Go.Shelf

theorem nls_mem {l : List UInt8} {k : Nat} {z : Int} (h : z ∈ nls l k) : 1 ≤ z ∧ z ≤ k := by
  simp only [nls, List.mem_filterMap, List.mem_range] at h
  obtain ⟨i, hi, h⟩ := h
  split at h
  · injection h with h; omega
  · cases h
theorem nls_more {l : List UInt8} {k m : Nat} (h : k ≤ m) : ∃ r, nls l m = nls l k ++ r ∧ ∀ z ∈ r, (k : Int) < z := by
  induction m with
  | zero => obtain rfl : k = 0 := by omega
            exact ⟨[], by simp, by simp⟩
  | succ m ih =>
    by_cases e : k = m + 1
    · subst e; exact ⟨[], by simp, by simp⟩
    · obtain ⟨r, h1, h2⟩ := ih (by omega)
      by_cases h10 : l[m]? = some 10
      · refine ⟨r ++ [(m : Int) + 1], by rw [nls_hit h10, h1, List.append_assoc], ?_⟩
        intro z hz
        rw [List.mem_append, List.mem_singleton] at hz
        rcases hz with hz | rfl
        · exact h2 z hz
        · omega
      · exact ⟨r, by rw [nls_miss h10, h1], h2⟩

/-- The line of a place. -/
def lnOf (s : ByteArray) (p : Nat) : Nat := (nls s.data.toList p).length
theorem lnOf_le (s : ByteArray) {p : Nat} (h : p ≤ s.size) : lnOf s p ≤ (bgs s).length := (nls_pre s.data.toList p s.size h).length_le
theorem bgs_lo {s : ByteArray} {p k : Nat} {z : Int} (h : p ≤ s.size) (hk : k < lnOf s p) (hz : (bgs s)[k]? = some z) : z ≤ p := by
  obtain ⟨r, h1, _⟩ := nls_more (l := s.data.toList) h
  have : z ∈ nls s.data.toList p := by
    have h2 : (bgs s)[k]? = (nls s.data.toList p)[k]? := by
      unfold bgs; rw [h1, List.getElem?_append_left hk]
    rw [h2] at hz
    exact List.mem_of_getElem? hz
  exact (nls_mem this).2
theorem bgs_hi {s : ByteArray} {p k : Nat} {z : Int} (h : p ≤ s.size) (hk : lnOf s p ≤ k) (hz : (bgs s)[k]? = some z) : (p : Int) < z := by
  obtain ⟨r, h1, h2⟩ := nls_more (l := s.data.toList) h
  have h3 : (bgs s)[k]? = r[k - lnOf s p]? := by
    unfold bgs; rw [h1, List.getElem?_append_right hk]; rfl
  rw [h3] at hz
  exact h2 z (List.mem_of_getElem? hz)
theorem bgs_mem {s : ByteArray} {k : Nat} {z : Int} (hz : (bgs s)[k]? = some z) : 1 ≤ z ∧ z ≤ s.size := nls_mem (List.mem_of_getElem? hz)

/-- Where a line begins, and where it ends. -/
def bgOf (s : ByteArray) (n : Nat) : Int := if n = 0 then 0 else ((bgs s)[n - 1]?).getD 0
def enOf (s : ByteArray) (n : Nat) : Int := if n = (bgs s).length then s.size else ((bgs s)[n]?).getD 0 - 1

set_option maxRecDepth 100000 in
set_option maxHeartbeats 2000000 in
theorem search_any (fn m n : Nat) (caps : Array Value) (w : World) (hm : m ≤ n) (hn : n ≤ 1000000)
    (hP : ∀ (k : Nat) (W : World), k < n → Below w.heap.size w W → Calls Try.prog fn (#[.int .i64 k] ++ caps) W fun e w' => e = .returned (.bool (decide (m ≤ k))) ∧ Below w.heap.size W w')
    (hcf : ∀ (args : Array Value) (w : World), Sem.run Try.prog (callFunc fn args) w = .ok (.enter fn args) w) :
    Calls Try.prog 25 #[.int .i64 n, .func (.func fn) #[] caps] w fun e w' => e = .returned (.int .i64 m) ∧ Below w.heap.size w w' := by
  have HP := Lib.hid hP; clear hP
  go_enter Try.func25, Try.ntmps25
  go_wp2_with fail
  go_loopw [5, 6] (fun i j wr => ∃ a b : Nat, a ≤ m ∧ m ≤ b ∧ b ≤ n ∧ i = .int .i64 a ∧ j = .int .i64 b ∧ Below w.heap.size w wr) (fun i j _ => (intOf j - intOf i).toNat)
  case atStart => exact ⟨0, n, by omega, hm, Nat.le_refl _, rfl, rfl, Below.refl _ _⟩
  case round =>
    obtain ⟨a, b, ha, hb1, hb2, rfl, rfl, hb⟩ := hrel
    by_cases hlt : a < b
    · obtain ⟨h, hh⟩ : ∃ h : Nat, ((a : Int) + b) / 2 = h := ⟨(a + b) / 2, by omega⟩
      have hh1 : a ≤ h := by omega
      have hh2 : h < b := by omega
      have HH := Lib.hid hh; clear hh
      have HC := HP.out h wr (by omega) hb
      have e1 : IntKind.u64.wrap ((a : Int) + b) = (a : Int) + b := IntWalk.u64_in _ (by omega)
      go_wp2_with fail
      rw [HH.out]
      refine HC.mono ?_
      rintro e w1 ⟨rfl, hb3⟩
      have hb4 := hb.trans hb3
      clear HC hb3 e1
      by_cases hmh : m ≤ h
      · have q1 : decide (m ≤ h) = true := by simpa using hmh
        rw [q1]
        go_wp2
        go_roundw
        case rel => exact ⟨a, h, ha, hmh, by omega, rfl, rfl, hb4⟩
        case measure => simp [intOf]; omega
      · have q1 : decide (m ≤ h) = false := by simpa using hmh
        rw [q1]
        go_wp2
        go_roundw
        case rel => exact ⟨h + 1, b, by omega, hb1, hb2, by go_num, rfl, hb4⟩
        case measure => simp [intOf]; omega
    · go_wp2
      go_ret
      exact ⟨ret_int (by omega), hb⟩

theorem cf_of {f : FuncId} {fn : Func} (hf : Try.prog.funcs[f]? = some fn) (hname : (fn.name == "runtime.NumGoroutine") = false) (hb : fn.body.isSome = true) (args : Array Value) (w : World) : Sem.run Try.prog (callFunc f args) w = .ok (.enter f args) w := by
  obtain ⟨c, hc⟩ := Option.isSome_iff_exists.1 hb
  have h1 : fn.name ≠ "runtime.NumGoroutine" := by simpa using hname
  simp [callFunc, hf, h1, hc]
theorem cfla1 (args : Array Value) (w : World) : Sem.run Try.prog (callFunc 26 args) w = .ok (.enter 26 args) w := cf_of Try.func26 (by kernel_rfl) (by kernel_rfl) args w

set_option maxRecDepth 100000 in
set_option maxHeartbeats 2000000 in
theorem la1_any (base X Bx Ba c k : Nat) (s : ByteArray) (A : Option Addr) (p : Int) (w : World) (hX : XAt w base X s A c) (hx : Boxed w Bx 23 (.pointer (some ⟨X, 0, none⟩))) (ha : Boxed w Ba 3 (.int .i64 p)) (hk : k < (bgs s).length) (_hs : s.size ≤ 1000000) :
    Calls Try.prog 26 #[.int .i64 k, .pointer (some ⟨Bx, 0, none⟩), .pointer (some ⟨Ba, 0, none⟩)] w fun e w' => ∃ z, (bgs s)[k]? = some z ∧ e = .returned (.bool (decide (p < z))) ∧ Below w.heap.size w w' := by
  obtain ⟨z, hz⟩ : ∃ z, (bgs s)[k]? = some z := ⟨_, List.getElem?_eq_getElem hk⟩
  obtain ⟨g, rfl, hg, _⟩ := hX.at' hz
  have cx := hx.cell
  have ca := ha.cell
  have c1 := hX.c1
  have hkl : (k : Int) < ((bgs s).length : Int) := by omega
  have hk0 : (0 : Int) ≤ (k : Int) := by omega
  have HZ := Lib.hid hz
  clear hz hX hx ha
  go_enter Try.func26, Try.ntmps26
  go_wp2_with fail
  go_quiet (fail)
  go_wp2
  go_ret
  exact ⟨z, HZ.out, rfl, below_drewN (Below.refl _ _) _⟩

set_option maxRecDepth 100000 in
set_option maxHeartbeats 2000000 in
theorem lineAt_any (base X c p : Nat) (s : ByteArray) (A : Option Addr) (w : World) (hX : XAt w base X s A c) (hp : p ≤ s.size) (hs : s.size ≤ 1000000) :
    Calls Try.prog 17 #[.pointer (some ⟨X, 0, none⟩), .int .i64 p] w fun e w' => e = .returned (.int .i64 (lnOf s p)) ∧ Below w.heap.size w w' := by
  have hb0 : Below w.heap.size w ((w.alloc (.cells #[.pointer (some ⟨X, 0, none⟩)] 23)).alloc (.cells #[.int .i64 p] 3)) := ((Below.refl _ w).alloc (Nat.le_refl _) _).alloc (by simp) _
  have HS := search_any 26 (lnOf s p) (bgs s).length #[.pointer (some ⟨w.heap.size, 0, none⟩), .pointer (some ⟨w.heap.size + 1, 0, none⟩)] ((w.alloc (.cells #[.pointer (some ⟨X, 0, none⟩)] 23)).alloc (.cells #[.int .i64 p] 3)) (lnOf_le s hp) (by have := bgs_len s; omega)
    (fun k W hk hW => by
      have hX' := (hX.below hb0).below hW
      have hx' : Boxed W w.heap.size 23 (.pointer (some ⟨X, 0, none⟩)) := by
        refine (hW.block w.heap.size (by simp; omega)).trans ?_
        exact (Boxed.new w 23 _).alloc _
      have ha' : Boxed W (w.heap.size + 1) 3 (.int .i64 p) := by
        refine (hW.block (w.heap.size + 1) (by simp)).trans ?_
        have := Boxed.new (w.alloc (.cells #[.pointer (some ⟨X, 0, none⟩)] 23)) 3 (.int .i64 p)
        rw [World.size_alloc] at this
        exact this
      refine (la1_any base X w.heap.size (w.heap.size + 1) c k s A p W hX' hx' ha' hk hs).mono ?_
      rintro e w' ⟨z, hz, rfl, hb⟩
      refine ⟨ret_bool ?_, hb.mono hW.size⟩
      by_cases h : lnOf s p ≤ k
      · have := bgs_hi hp h hz
        simp [h, this]
      · have := bgs_lo hp (by omega) hz
        simp [h]; omega) cfla1
  have c1 := hX.c1
  have hcl := (Boxed.new w 23 (.pointer (some ⟨X, 0, none⟩))).cell
  have hXl := hX.lt
  clear hX
  have HB0 := Lib.hid hb0; clear hb0
  have c1' : ∀ o1 o2, ((w.alloc o1).alloc o2).cell? ⟨X, 1, none⟩ = some (.slice A (bgs s).length c) := fun o1 o2 => (((Below.refl w.heap.size w).alloc (Nat.le_refl _) o1).alloc (by simp) o2).cell (p := ⟨X, 1, none⟩) hXl |>.trans c1
  go_enter Try.func17, Try.ntmps17
  go_wp2_with fail
  refine HS.mono ?_
  rintro e w1 ⟨rfl, hb1⟩
  clear HS
  go_wp2
  go_ret
  exact ⟨rfl, HB0.out.trans (hb1.mono HB0.out.size)⟩

set_option maxRecDepth 100000 in
set_option maxHeartbeats 2000000 in
theorem begin_any (base X c n : Nat) (s : ByteArray) (A : Option Addr) (w : World) (hX : XAt w base X s A c) (hn : n ≤ (bgs s).length) (hs : s.size ≤ 1000000) :
    Calls Try.prog 18 #[.pointer (some ⟨X, 0, none⟩), .int .i64 n] w fun e w' => e = .returned (.int .i64 (bgOf s n)) ∧ w = w' := by
  have hbl := bgs_len s
  by_cases h0 : n = 0
  · subst h0
    clear hX
    go_enter Try.func18, Try.ntmps18
    go_wp2
    go_ret
    exact ⟨rfl, rfl⟩
  · obtain ⟨z, hz⟩ : ∃ z, (bgs s)[n - 1]? = some z := ⟨_, List.getElem?_eq_getElem (by omega)⟩
    have HB := Lib.hid (show bgOf s n = z by unfold bgOf; rw [if_neg h0, hz]; rfl)
    obtain ⟨g, rfl, hg, _⟩ := hX.at' hz
    have c1 := hX.c1
    obtain ⟨k, rfl⟩ : ∃ k, n = k + 1 := ⟨n - 1, by omega⟩
    rw [Nat.add_sub_cancel] at hg
    have q1 : (((k + 1 : Nat) : Int) == 0) = false := by rw [beq_eq_false_iff_ne]; omega
    have p1 : IntKind.i64.wrap (((k + 1 : Nat) : Int) - 1) = (k : Int) := by rw [IntWalk.i64_in _ (by omega)]; omega
    have hkl : (k : Int) < ((bgs s).length : Int) := by omega
    clear hz hX h0
    go_enter Try.func18, Try.ntmps18
    go_wp2
    go_ret
    exact ⟨by rw [HB.out]; rfl, rfl⟩

set_option maxRecDepth 100000 in
set_option maxHeartbeats 2000000 in
theorem end_any (base X c n : Nat) (s : ByteArray) (A : Option Addr) (w : World) (hX : XAt w base X s A c) (hn : n ≤ (bgs s).length) (hs : s.size ≤ 1000000) :
    Calls Try.prog 21 #[.pointer (some ⟨X, 0, none⟩), .int .i64 n] w fun e w' => e = .returned (.int .i64 (enOf s n)) ∧ w = w' := by
  have hbl := bgs_len s
  have c0 := hX.c0
  have c1 := hX.c1
  by_cases h0 : n = (bgs s).length
  · have HB := Lib.hid (show enOf s n = s.size by unfold enOf; rw [if_pos h0])
    have q1 : ((n : Int) == ((bgs s).length : Int)) = true := by rw [beq_iff_eq]; omega
    clear hX h0
    go_enter Try.func21, Try.ntmps21
    go_wp2
    go_ret
    exact ⟨by rw [HB.out]; rfl, rfl⟩
  · obtain ⟨z, hz⟩ : ∃ z, (bgs s)[n]? = some z := ⟨_, List.getElem?_eq_getElem (by omega)⟩
    have HB := Lib.hid (show enOf s n = z - 1 by unfold enOf; rw [if_neg h0, hz]; rfl)
    obtain ⟨g, rfl, hg, _⟩ := hX.at' hz
    have hzb := bgs_mem hz
    have hz1 := hzb.1
    have hz2 := hzb.2
    have q1 : ((n : Int) == ((bgs s).length : Int)) = false := by rw [beq_eq_false_iff_ne]; omega
    have hkl : (n : Int) < ((bgs s).length : Int) := by omega
    clear hz hX h0 hzb
    go_enter Try.func21, Try.ntmps21
    go_wp2
    go_ret
    exact ⟨by rw [HB.out]; rfl, rfl⟩

theorem count_any (base X c : Nat) (s : ByteArray) (A : Option Addr) (w : World) (hX : XAt w base X s A c) (hs : s.size ≤ 1000000) :
    Calls Try.prog 9 #[.pointer (some ⟨X, 0, none⟩)] w fun e w' => e = .returned (.int .i64 ((bgs s).length + 1)) ∧ w = w' := by
  have hbl := bgs_len s
  have c1 := hX.c1
  clear hX
  go_enter Try.func9, Try.ntmps9
  go_wp2
  go_ret
  exact ⟨rfl, rfl⟩

theorem text_any (base X c : Nat) (s : ByteArray) (A : Option Addr) (w : World) (hX : XAt w base X s A c) (hs : s.size ≤ 1000000) :
    Calls Try.prog 10 #[.pointer (some ⟨X, 0, none⟩)] w fun e w' => e = .returned (.string s) ∧ Below w.heap.size w w' := by
  have c0 := hX.c0
  clear hX
  go_enter Try.func10, Try.ntmps10
  go_wp2_with fail
  refine (clone_any s w (by omega)).mono ?_
  rintro e w1 ⟨rfl, hb⟩
  go_wp2
  go_ret
  exact ⟨rfl, hb⟩
end Go.Proofs.Ytifehdoindbkmaa
