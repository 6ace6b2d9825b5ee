/- What the document's Step (frisketref04) answers. -/
import Derived.Test.YtifehdoindbkmaaDoorA4
namespace Go.Proofs.YtifehdoindbkmaaDoor
open Go.RowKit

/-- How many bytes a first byte asks for; what it has of the code point. -/
def szOf (a : Nat) : Nat := if 240 ≤ a then 4 else if 224 ≤ a then 3 else if 192 ≤ a then 2 else 1
def baOf (a : Nat) : Nat := if 240 ≤ a then 240 else if 224 ≤ a then 224 else if 192 ≤ a then 192 else 0
def f64 : Nat → List UInt8 → Nat
  | n, [] => n
  | n, c :: r => f64 (n * 64 + c.toNat % 64) r

theorem f64_of_jn : ∀ {l : List UInt8} {n m : Nat}, jn n l = some m → f64 n l = m
  | [], n, m, h => by simpa [jn, f64] using h
  | c :: r, n, m, h => by
    simp only [jn] at h
    split at h
    · have := f64_of_jn h
      rw [f64, ← this, show c.toNat % 64 = c.toNat - 128 by omega]
    · cases h

theorem stp_sz {a : UInt8} {r : List UInt8} {n k : Nat} (h : stp (a :: r) = some (n, k)) : k = szOf a.toNat ∧ f64 (a.toNat - baOf a.toNat) (r.take (szOf a.toNat - 1)) = n := by
  simp only [stp] at h
  unfold szOf baOf
  by_cases h1 : a.toNat < 128
  · rw [if_pos h1] at h
    simp only [Option.some.injEq, Prod.mk.injEq] at h
    obtain ⟨rfl, rfl⟩ := h
    rw [if_neg (by omega), if_neg (by omega), if_neg (by omega), if_neg (by omega), if_neg (by omega), if_neg (by omega)]
    exact ⟨rfl, rfl⟩
  rw [if_neg h1] at h
  by_cases h2 : a.toNat < 192
  · rw [if_pos h2] at h; cases h
  rw [if_neg h2] at h
  by_cases h3 : a.toNat < 224
  · rw [if_pos h3] at h
    rw [if_neg (by omega), if_neg (by omega), if_pos (by omega), if_neg (by omega), if_neg (by omega), if_pos (by omega)]
    split at h
    · cases h
    · obtain ⟨m, hm, h⟩ := Option.bind_eq_some_iff.1 h
      split at h
      · simp only [Option.some.injEq, Prod.mk.injEq] at h
        obtain ⟨rfl, rfl⟩ := h
        exact ⟨rfl, f64_of_jn hm⟩
      · cases h
  rw [if_neg h3] at h
  by_cases h4 : a.toNat < 240
  · rw [if_pos h4] at h
    rw [if_neg (by omega), if_pos (by omega), if_neg (by omega), if_pos (by omega)]
    split at h
    · cases h
    · obtain ⟨m, hm, h⟩ := Option.bind_eq_some_iff.1 h
      split at h
      · simp only [Option.some.injEq, Prod.mk.injEq] at h
        obtain ⟨rfl, rfl⟩ := h
        exact ⟨rfl, f64_of_jn hm⟩
      · cases h
  rw [if_neg h4] at h
  by_cases h5 : a.toNat < 245
  · rw [if_pos h5] at h
    rw [if_pos (by omega), if_pos (by omega)]
    split at h
    · cases h
    · obtain ⟨m, hm, h⟩ := Option.bind_eq_some_iff.1 h
      split at h
      · simp only [Option.some.injEq, Prod.mk.injEq] at h
        obtain ⟨rfl, rfl⟩ := h
        exact ⟨rfl, f64_of_jn hm⟩
      · cases h
  rw [if_neg h5] at h; cases h

theorem stp_short {a : UInt8} {r : List UInt8} (h : r.length + 1 < szOf a.toNat) : stp (a :: r) = none := by
  cases hs : stp (a :: r) with
  | none => rfl
  | some p =>
    obtain ⟨n, k⟩ := p
    have h1 := stp_sz hs
    have h2 := stp_len hs
    rw [List.length_cons] at h2
    omega

theorem stp_ref {a : UInt8} {r : List UInt8} {m : Nat} (hl : szOf a.toNat ≤ r.length + 1) (hm : f64 (a.toNat - baOf a.toNat) (r.take (szOf a.toNat - 1)) = m) :
    stp (a :: r) = if okN m = true ∧ enc m = (a :: r).take (szOf a.toNat) then some (m, szOf a.toNat) else none := by
  by_cases hc : okN m = true ∧ enc m = (a :: r).take (szOf a.toNat)
  · rw [if_pos hc]
    have h1 := stp_enc m ((a :: r).drop (szOf a.toNat)) hc.1
    rw [hc.2, List.take_append_drop] at h1
    rw [h1, List.length_take, List.length_cons, Nat.min_eq_left hl]
  · rw [if_neg hc]
    cases hs : stp (a :: r) with
    | none => rfl
    | some p =>
      obtain ⟨n, k⟩ := p
      obtain ⟨h1, h2⟩ := stp_sz hs
      rw [hm] at h2
      subst h2
      obtain ⟨h3, h4, h5⟩ := stp_some hs
      refine absurd ⟨h3, ?_⟩ hc
      rw [← h1, h5, h4, List.take_left]

set_option maxRecDepth 100000 in
set_option maxHeartbeats 1000000 in
theorem rstep_nil (w : World) : Calls Tryd.prog 25 #[.string ⟨#[]⟩] w fun e w' => e = .returned (.tuple #[.int .i64 (-1), .int .i64 0]) ∧ w = w' := by
  go_enter Tryd.func25, Tryd.ntmps25
  go_wp2
  go_ret2
  exact ⟨rfl, rfl⟩

def rstV (l : List UInt8) : Value := match stp l with | some (n, k) => .tuple #[.int .i64 n, .int .i64 k] | none => .tuple #[.int .i64 (-1), .int .i64 0]
theorem rstV_some {l : List UInt8} {n k : Nat} (h : stp l = some (n, k)) : rstV l = .tuple #[.int .i64 n, .int .i64 k] := by unfold rstV; rw [h]
theorem rstV_none {l : List UInt8} (h : stp l = none) : rstV l = .tuple #[.int .i64 (-1), .int .i64 0] := by unfold rstV; rw [h]

theorem at_of {s : ByteArray} {a : UInt8} {r : List UInt8} (hL : s.data.toList = a :: r) : ∀ (j : Nat) (hj : j < s.size) (c : UInt8), (a :: r)[j]? = some c → s[j] = c := by
  intro j hj c hc
  rw [← hL] at hc
  obtain ⟨h1, h2⟩ := List.getElem?_eq_some_iff.1 hc
  rw [← h2]; simp; rfl

theorem f64_step {r : List UInt8} {c : UInt8} {j k m : Nat} (h : r[j - 1]? = some c) (hj : 1 ≤ j) (hk : j - 1 < k) : f64 (m * 64 + c.toNat % 64) ((r.take k).drop (j + 1 - 1)) = f64 m ((r.take k).drop (j - 1)) := by
  have h1 : (r.take k)[j - 1]? = some c := by rw [List.getElem?_take, if_pos hk]; exact h
  obtain ⟨h2, h3⟩ := List.getElem?_eq_some_iff.1 h1
  rw [List.drop_eq_getElem_cons h2, h3, f64, show j + 1 - 1 = j - 1 + 1 by omega]

/-- How great the number can be behind so many bytes. -/
def fB (i : Nat) (z : Int) : Prop := 0 ≤ z ∧ (i = 1 → z ≤ 191) ∧ (i = 2 → z ≤ 12287) ∧ (i = 3 → z ≤ 786431) ∧ (i = 4 → z ≤ 50331647)


set_option maxRecDepth 100000 in
set_option maxHeartbeats 2000000 in
theorem rstep_4 (s : ByteArray) (a : UInt8) (r : List UInt8) (w : World) (hL : s.data.toList = a :: r) (hs : s.size ≤ 1099511627776) (hcl : 240 ≤ a.toNat) :
    Calls Tryd.prog 25 #[.string s] w fun e w' => e = .returned (rstV (a :: r)) ∧ Below w.heap.size w w' := by
  have hsz : szOf a.toNat = 4 := by unfold szOf; rw [if_pos hcl]
  have hba : baOf a.toNat = 240 := by unfold baOf; rw [if_pos hcl]
  have hsize : s.size = r.length + 1 := by rw [Lib.size_eq, hL]; rfl
  have h0 : 0 < s.size := by omega
  have hat := at_of hL
  have ha : s[0] = a := hat 0 h0 a rfl
  have HAT := Lib.hid hat; clear hat
  have HSL := Lib.hid hL; clear hL
  have hab : (a.toNat : Int) < 256 := by have := a.toNat_lt; omega
  have HZ := Lib.hid hsize; clear hsize
  have hnz : ((s.size : Int) == 0) = false := by rw [beq_eq_false_iff_ne]; omega
  have c1 := hcl
  by_cases hshort : s.size < 4
  · have hn : rstV (a :: r) = .tuple #[.int .i64 (-1), .int .i64 0] := rstV_none (stp_short (by rw [hsz, ← HZ.out]; exact hshort))
    have HN := Lib.hid hn; clear hn hsz hba
    go_enter Tryd.func25, Tryd.ntmps25
    go_wp2
    go_ret2
    exact ⟨by rw [HN.out]; rfl, Below.refl _ _⟩
  obtain ⟨M, hM⟩ : ∃ M, f64 (a.toNat - 240) (r.take (4 - 1)) = M := ⟨_, rfl⟩
  have hst := stp_ref (a := a) (r := r) (m := M) (by rw [hsz, ← HZ.out]; omega) (by rw [hsz, hba]; exact hM)
  rw [hsz] at hst
  have HST := Lib.hid hst; have HM := Lib.hid hM
  clear hst hM hsz hba
  have hle : 4 ≤ s.size := by omega
  go_enter Tryd.func25, Tryd.ntmps25
  go_wp2
  go_loop [6, 7] (fun z i => ∃ (j m : Nat), 1 ≤ j ∧ j ≤ 4 ∧ i = .int .i64 j ∧ z = .int .i64 m ∧ Hid (f64 m ((r.take (4 - 1)).drop (j - 1)) = M) ∧ Hid (fB j m)) (fun _ i => 4 - (intOf i).toNat)
  case atStart => exact ⟨1, a.toNat - 240, by omega, by omega, rfl, by rw [show ((a.toNat - 240 : Nat) : Int) = (a.toNat : Int) - 240 by omega], HM.out, by show fB _ _; unfold fB; omega⟩
  case round =>
    obtain ⟨j, m, hj1, hj, rfl, rfl, HF, HB⟩ := hrel
    by_cases hlt : j < 4
    · have hrl : j - 1 < r.length := by have := HZ.out; omega
      obtain ⟨c, hc⟩ : ∃ c, r[j - 1]? = some c := ⟨_, List.getElem?_eq_getElem hrl⟩
      have hjs : j < s.size := by omega
      have hsj := HAT.out j hjs c (by rw [show j = (j - 1) + 1 by omega, List.getElem?_cons_succ]; exact hc)
      have HC := Lib.hid hc
      clear hc hrl
      have hcb : (c.toNat : Int) < 256 := by have := c.toNat_lt; omega
      have hmb : (m : Int) ≤ 786431 := by have := HB.out; unfold fB at this; omega
      go_wp2
      go_round
      case rel =>
        refine ⟨j + 1, m * 64 + c.toNat % 64, by omega, by omega, by go_num, by first | rfl | (rw [show ((m * 64 + c.toNat % 64 : Nat) : Int) = (m : Int) * 64 + (c.toNat : Int) % 64 by omega]), ?_, ?_⟩
        · show _ = _
          rw [← HF.out]
          exact f64_step (HC.out) hj1 (by omega)
        · have := HB.out
          show fB _ _
          unfold fB at this ⊢
          omega
      case measure => simp [intOf]; omega
    · have hj4 : j = 4 := by omega
      have hmM : m = M := by
        rw [← HF.out, List.drop_of_length_le (by rw [List.length_take]; omega)]; rfl
      subst hmM
      have hb := HB.out
      unfold fB at hb
      have hm0 : (m : Int) ≤ 50331647 := by omega
      clear hb hj4
      by_cases hok : okN m = true
      · have hm1 : 0 ≤ (m : Int) ∧ (m : Int) ≤ 1114111 := by rw [okN_iff] at hok; omega
        obtain ⟨S, hS⟩ : ∃ S, S = encS m := ⟨_, rfl⟩
        have c20 : ∀ W, Calls Tryd.prog 20 #[.int .i64 m] W fun e w' => e = .returned (.bool true) ∧ W = w' := fun W => by have := rright_any m W; rw [hok] at this; exact this
        have c21 : ∀ W, Calls Tryd.prog 21 #[.int .i64 m] W fun e w' => e = .returned (.string S) ∧ Below W.heap.size W w' := fun W => by
          have := rbytes_z m W hm1.1 hm1.2
          rw [Int.toNat_natCast, ← hS] at this; exact this
        have hx : (s.extract 0 4).data.toList = (a :: r).take 4 := by
          rw [Lib.extract_data, HSL.out, List.drop_zero, Nat.sub_zero]
        have HQ : Hid ((S.toList == (s.extract 0 4).toList) = true → rstV (a :: r) = .tuple #[.int .i64 m, .int .i64 4]) := fun q => by
          rw [Lib.toList_data, Lib.toList_data, hx, hS] at q
          exact rstV_some (by rw [HST.out, if_pos ⟨hok, by simpa [encS] using q⟩])
        have HQ' : Hid ((S.toList == (s.extract 0 4).toList) = false → rstV (a :: r) = .tuple #[.int .i64 (-1), .int .i64 0]) := fun q => by
          rw [Lib.toList_data, Lib.toList_data, hx, hS] at q
          exact rstV_none (by rw [HST.out, if_neg (fun h => by simp [encS, h.2] at q)])
        clear hok hS hx
        go_wp2_with fail
        go_region_with (first | (go_at_call 20; (with_reducible refine (c20 _).mono ?_); rintro e w1 ⟨rfl, rfl⟩) | (go_at_call 21; (with_reducible refine (c21 _).mono ?_); rintro e w1 ⟨rfl, hb1⟩))
        all_goals
          cases hq : (S.toList == (s.extract 0 4).toList) with
          | true =>
            have HN := Lib.hid (HQ.out hq)
            go_wp2
            go_ret2
            exact ⟨by rw [HN.out]; rfl, ((Below.refl w.heap.size w).drew).trans hb1⟩
          | false =>
            have HN := Lib.hid (HQ'.out hq)
            go_wp2
            go_ret2
            exact ⟨by rw [HN.out]; rfl, ((Below.refl w.heap.size w).drew).trans hb1⟩
      · have hok' : okN m = false := by simpa using hok
        have c20 : ∀ W, Calls Tryd.prog 20 #[.int .i64 m] W fun e w' => e = .returned (.bool false) ∧ w' = W := fun W => by have := (rright_any m W).mono (fun e w' h => And.intro h.1 h.2.symm); rw [hok'] at this; exact this
        have HN := Lib.hid (show rstV (a :: r) = .tuple #[.int .i64 (-1), .int .i64 0] from rstV_none (by rw [HST.out, if_neg (fun h => hok h.1)]))
        clear hok hok'
        go_wp2_with fail
        go_quiet ((go_at_call 20; exact Calls.quiet_of_same (c20 _)))
        go_wp2
        go_ret2
        exact ⟨by rw [HN.out]; rfl, below_drewN (Below.refl _ _) _⟩

set_option maxRecDepth 100000 in
set_option maxHeartbeats 2000000 in
theorem rstep_3 (s : ByteArray) (a : UInt8) (r : List UInt8) (w : World) (hL : s.data.toList = a :: r) (hs : s.size ≤ 1099511627776) (hcl : 224 ≤ a.toNat ∧ a.toNat < 240) :
    Calls Tryd.prog 25 #[.string s] w fun e w' => e = .returned (rstV (a :: r)) ∧ Below w.heap.size w w' := by
  have hsz : szOf a.toNat = 3 := by unfold szOf; rw [if_neg (by omega), if_pos (by omega)]
  have hba : baOf a.toNat = 224 := by unfold baOf; rw [if_neg (by omega), if_pos (by omega)]
  have hsize : s.size = r.length + 1 := by rw [Lib.size_eq, hL]; rfl
  have h0 : 0 < s.size := by omega
  have hat := at_of hL
  have ha : s[0] = a := hat 0 h0 a rfl
  have HAT := Lib.hid hat; clear hat
  have HSL := Lib.hid hL; clear hL
  have hab : (a.toNat : Int) < 256 := by have := a.toNat_lt; omega
  have HZ := Lib.hid hsize; clear hsize
  have hnz : ((s.size : Int) == 0) = false := by rw [beq_eq_false_iff_ne]; omega
  obtain ⟨c1, c2⟩ := hcl
  by_cases hshort : s.size < 3
  · have hn : rstV (a :: r) = .tuple #[.int .i64 (-1), .int .i64 0] := rstV_none (stp_short (by rw [hsz, ← HZ.out]; exact hshort))
    have HN := Lib.hid hn; clear hn hsz hba
    go_enter Tryd.func25, Tryd.ntmps25
    go_wp2
    go_ret2
    exact ⟨by rw [HN.out]; rfl, Below.refl _ _⟩
  obtain ⟨M, hM⟩ : ∃ M, f64 (a.toNat - 224) (r.take (3 - 1)) = M := ⟨_, rfl⟩
  have hst := stp_ref (a := a) (r := r) (m := M) (by rw [hsz, ← HZ.out]; omega) (by rw [hsz, hba]; exact hM)
  rw [hsz] at hst
  have HST := Lib.hid hst; have HM := Lib.hid hM
  clear hst hM hsz hba
  have hle : 3 ≤ s.size := by omega
  go_enter Tryd.func25, Tryd.ntmps25
  go_wp2
  go_loop [6, 7] (fun z i => ∃ (j m : Nat), 1 ≤ j ∧ j ≤ 3 ∧ i = .int .i64 j ∧ z = .int .i64 m ∧ Hid (f64 m ((r.take (3 - 1)).drop (j - 1)) = M) ∧ Hid (fB j m)) (fun _ i => 3 - (intOf i).toNat)
  case atStart => exact ⟨1, a.toNat - 224, by omega, by omega, rfl, by rw [show ((a.toNat - 224 : Nat) : Int) = (a.toNat : Int) - 224 by omega], HM.out, by show fB _ _; unfold fB; omega⟩
  case round =>
    obtain ⟨j, m, hj1, hj, rfl, rfl, HF, HB⟩ := hrel
    by_cases hlt : j < 3
    · have hrl : j - 1 < r.length := by have := HZ.out; omega
      obtain ⟨c, hc⟩ : ∃ c, r[j - 1]? = some c := ⟨_, List.getElem?_eq_getElem hrl⟩
      have hjs : j < s.size := by omega
      have hsj := HAT.out j hjs c (by rw [show j = (j - 1) + 1 by omega, List.getElem?_cons_succ]; exact hc)
      have HC := Lib.hid hc
      clear hc hrl
      have hcb : (c.toNat : Int) < 256 := by have := c.toNat_lt; omega
      have hmb : (m : Int) ≤ 786431 := by have := HB.out; unfold fB at this; omega
      go_wp2
      go_round
      case rel =>
        refine ⟨j + 1, m * 64 + c.toNat % 64, by omega, by omega, by go_num, by first | rfl | (rw [show ((m * 64 + c.toNat % 64 : Nat) : Int) = (m : Int) * 64 + (c.toNat : Int) % 64 by omega]), ?_, ?_⟩
        · show _ = _
          rw [← HF.out]
          exact f64_step (HC.out) hj1 (by omega)
        · have := HB.out
          show fB _ _
          unfold fB at this ⊢
          omega
      case measure => simp [intOf]; omega
    · have hj4 : j = 3 := by omega
      have hmM : m = M := by
        rw [← HF.out, List.drop_of_length_le (by rw [List.length_take]; omega)]; rfl
      subst hmM
      have hb := HB.out
      unfold fB at hb
      have hm0 : (m : Int) ≤ 50331647 := by omega
      clear hb hj4
      by_cases hok : okN m = true
      · have hm1 : 0 ≤ (m : Int) ∧ (m : Int) ≤ 1114111 := by rw [okN_iff] at hok; omega
        obtain ⟨S, hS⟩ : ∃ S, S = encS m := ⟨_, rfl⟩
        have c20 : ∀ W, Calls Tryd.prog 20 #[.int .i64 m] W fun e w' => e = .returned (.bool true) ∧ W = w' := fun W => by have := rright_any m W; rw [hok] at this; exact this
        have c21 : ∀ W, Calls Tryd.prog 21 #[.int .i64 m] W fun e w' => e = .returned (.string S) ∧ Below W.heap.size W w' := fun W => by
          have := rbytes_z m W hm1.1 hm1.2
          rw [Int.toNat_natCast, ← hS] at this; exact this
        have hx : (s.extract 0 3).data.toList = (a :: r).take 3 := by
          rw [Lib.extract_data, HSL.out, List.drop_zero, Nat.sub_zero]
        have HQ : Hid ((S.toList == (s.extract 0 3).toList) = true → rstV (a :: r) = .tuple #[.int .i64 m, .int .i64 3]) := fun q => by
          rw [Lib.toList_data, Lib.toList_data, hx, hS] at q
          exact rstV_some (by rw [HST.out, if_pos ⟨hok, by simpa [encS] using q⟩])
        have HQ' : Hid ((S.toList == (s.extract 0 3).toList) = false → rstV (a :: r) = .tuple #[.int .i64 (-1), .int .i64 0]) := fun q => by
          rw [Lib.toList_data, Lib.toList_data, hx, hS] at q
          exact rstV_none (by rw [HST.out, if_neg (fun h => by simp [encS, h.2] at q)])
        clear hok hS hx
        go_wp2_with fail
        go_region_with (first | (go_at_call 20; (with_reducible refine (c20 _).mono ?_); rintro e w1 ⟨rfl, rfl⟩) | (go_at_call 21; (with_reducible refine (c21 _).mono ?_); rintro e w1 ⟨rfl, hb1⟩))
        all_goals
          cases hq : (S.toList == (s.extract 0 3).toList) with
          | true =>
            have HN := Lib.hid (HQ.out hq)
            go_wp2
            go_ret2
            exact ⟨by rw [HN.out]; rfl, ((Below.refl w.heap.size w).drew).trans hb1⟩
          | false =>
            have HN := Lib.hid (HQ'.out hq)
            go_wp2
            go_ret2
            exact ⟨by rw [HN.out]; rfl, ((Below.refl w.heap.size w).drew).trans hb1⟩
      · have hok' : okN m = false := by simpa using hok
        have c20 : ∀ W, Calls Tryd.prog 20 #[.int .i64 m] W fun e w' => e = .returned (.bool false) ∧ w' = W := fun W => by have := (rright_any m W).mono (fun e w' h => And.intro h.1 h.2.symm); rw [hok'] at this; exact this
        have HN := Lib.hid (show rstV (a :: r) = .tuple #[.int .i64 (-1), .int .i64 0] from rstV_none (by rw [HST.out, if_neg (fun h => hok h.1)]))
        clear hok hok'
        go_wp2_with fail
        go_quiet ((go_at_call 20; exact Calls.quiet_of_same (c20 _)))
        go_wp2
        go_ret2
        exact ⟨by rw [HN.out]; rfl, below_drewN (Below.refl _ _) _⟩

set_option maxRecDepth 100000 in
set_option maxHeartbeats 2000000 in
theorem rstep_2 (s : ByteArray) (a : UInt8) (r : List UInt8) (w : World) (hL : s.data.toList = a :: r) (hs : s.size ≤ 1099511627776) (hcl : 192 ≤ a.toNat ∧ a.toNat < 224) :
    Calls Tryd.prog 25 #[.string s] w fun e w' => e = .returned (rstV (a :: r)) ∧ Below w.heap.size w w' := by
  have hsz : szOf a.toNat = 2 := by unfold szOf; rw [if_neg (by omega), if_neg (by omega), if_pos (by omega)]
  have hba : baOf a.toNat = 192 := by unfold baOf; rw [if_neg (by omega), if_neg (by omega), if_pos (by omega)]
  have hsize : s.size = r.length + 1 := by rw [Lib.size_eq, hL]; rfl
  have h0 : 0 < s.size := by omega
  have hat := at_of hL
  have ha : s[0] = a := hat 0 h0 a rfl
  have HAT := Lib.hid hat; clear hat
  have HSL := Lib.hid hL; clear hL
  have hab : (a.toNat : Int) < 256 := by have := a.toNat_lt; omega
  have HZ := Lib.hid hsize; clear hsize
  have hnz : ((s.size : Int) == 0) = false := by rw [beq_eq_false_iff_ne]; omega
  obtain ⟨c1, c2⟩ := hcl
  by_cases hshort : s.size < 2
  · have hn : rstV (a :: r) = .tuple #[.int .i64 (-1), .int .i64 0] := rstV_none (stp_short (by rw [hsz, ← HZ.out]; exact hshort))
    have HN := Lib.hid hn; clear hn hsz hba
    go_enter Tryd.func25, Tryd.ntmps25
    go_wp2
    go_ret2
    exact ⟨by rw [HN.out]; rfl, Below.refl _ _⟩
  obtain ⟨M, hM⟩ : ∃ M, f64 (a.toNat - 192) (r.take (2 - 1)) = M := ⟨_, rfl⟩
  have hst := stp_ref (a := a) (r := r) (m := M) (by rw [hsz, ← HZ.out]; omega) (by rw [hsz, hba]; exact hM)
  rw [hsz] at hst
  have HST := Lib.hid hst; have HM := Lib.hid hM
  clear hst hM hsz hba
  have hle : 2 ≤ s.size := by omega
  go_enter Tryd.func25, Tryd.ntmps25
  go_wp2
  go_loop [6, 7] (fun z i => ∃ (j m : Nat), 1 ≤ j ∧ j ≤ 2 ∧ i = .int .i64 j ∧ z = .int .i64 m ∧ Hid (f64 m ((r.take (2 - 1)).drop (j - 1)) = M) ∧ Hid (fB j m)) (fun _ i => 2 - (intOf i).toNat)
  case atStart => exact ⟨1, a.toNat - 192, by omega, by omega, rfl, by rw [show ((a.toNat - 192 : Nat) : Int) = (a.toNat : Int) - 192 by omega], HM.out, by show fB _ _; unfold fB; omega⟩
  case round =>
    obtain ⟨j, m, hj1, hj, rfl, rfl, HF, HB⟩ := hrel
    by_cases hlt : j < 2
    · have hrl : j - 1 < r.length := by have := HZ.out; omega
      obtain ⟨c, hc⟩ : ∃ c, r[j - 1]? = some c := ⟨_, List.getElem?_eq_getElem hrl⟩
      have hjs : j < s.size := by omega
      have hsj := HAT.out j hjs c (by rw [show j = (j - 1) + 1 by omega, List.getElem?_cons_succ]; exact hc)
      have HC := Lib.hid hc
      clear hc hrl
      have hcb : (c.toNat : Int) < 256 := by have := c.toNat_lt; omega
      have hmb : (m : Int) ≤ 786431 := by have := HB.out; unfold fB at this; omega
      go_wp2
      go_round
      case rel =>
        refine ⟨j + 1, m * 64 + c.toNat % 64, by omega, by omega, by go_num, by first | rfl | (rw [show ((m * 64 + c.toNat % 64 : Nat) : Int) = (m : Int) * 64 + (c.toNat : Int) % 64 by omega]), ?_, ?_⟩
        · show _ = _
          rw [← HF.out]
          exact f64_step (HC.out) hj1 (by omega)
        · have := HB.out
          show fB _ _
          unfold fB at this ⊢
          omega
      case measure => simp [intOf]; omega
    · have hj4 : j = 2 := by omega
      have hmM : m = M := by
        rw [← HF.out, List.drop_of_length_le (by rw [List.length_take]; omega)]; rfl
      subst hmM
      have hb := HB.out
      unfold fB at hb
      have hm0 : (m : Int) ≤ 50331647 := by omega
      clear hb hj4
      by_cases hok : okN m = true
      · have hm1 : 0 ≤ (m : Int) ∧ (m : Int) ≤ 1114111 := by rw [okN_iff] at hok; omega
        obtain ⟨S, hS⟩ : ∃ S, S = encS m := ⟨_, rfl⟩
        have c20 : ∀ W, Calls Tryd.prog 20 #[.int .i64 m] W fun e w' => e = .returned (.bool true) ∧ W = w' := fun W => by have := rright_any m W; rw [hok] at this; exact this
        have c21 : ∀ W, Calls Tryd.prog 21 #[.int .i64 m] W fun e w' => e = .returned (.string S) ∧ Below W.heap.size W w' := fun W => by
          have := rbytes_z m W hm1.1 hm1.2
          rw [Int.toNat_natCast, ← hS] at this; exact this
        have hx : (s.extract 0 2).data.toList = (a :: r).take 2 := by
          rw [Lib.extract_data, HSL.out, List.drop_zero, Nat.sub_zero]
        have HQ : Hid ((S.toList == (s.extract 0 2).toList) = true → rstV (a :: r) = .tuple #[.int .i64 m, .int .i64 2]) := fun q => by
          rw [Lib.toList_data, Lib.toList_data, hx, hS] at q
          exact rstV_some (by rw [HST.out, if_pos ⟨hok, by simpa [encS] using q⟩])
        have HQ' : Hid ((S.toList == (s.extract 0 2).toList) = false → rstV (a :: r) = .tuple #[.int .i64 (-1), .int .i64 0]) := fun q => by
          rw [Lib.toList_data, Lib.toList_data, hx, hS] at q
          exact rstV_none (by rw [HST.out, if_neg (fun h => by simp [encS, h.2] at q)])
        clear hok hS hx
        go_wp2_with fail
        go_region_with (first | (go_at_call 20; (with_reducible refine (c20 _).mono ?_); rintro e w1 ⟨rfl, rfl⟩) | (go_at_call 21; (with_reducible refine (c21 _).mono ?_); rintro e w1 ⟨rfl, hb1⟩))
        all_goals
          cases hq : (S.toList == (s.extract 0 2).toList) with
          | true =>
            have HN := Lib.hid (HQ.out hq)
            go_wp2
            go_ret2
            exact ⟨by rw [HN.out]; rfl, ((Below.refl w.heap.size w).drew).trans hb1⟩
          | false =>
            have HN := Lib.hid (HQ'.out hq)
            go_wp2
            go_ret2
            exact ⟨by rw [HN.out]; rfl, ((Below.refl w.heap.size w).drew).trans hb1⟩
      · have hok' : okN m = false := by simpa using hok
        have c20 : ∀ W, Calls Tryd.prog 20 #[.int .i64 m] W fun e w' => e = .returned (.bool false) ∧ w' = W := fun W => by have := (rright_any m W).mono (fun e w' h => And.intro h.1 h.2.symm); rw [hok'] at this; exact this
        have HN := Lib.hid (show rstV (a :: r) = .tuple #[.int .i64 (-1), .int .i64 0] from rstV_none (by rw [HST.out, if_neg (fun h => hok h.1)]))
        clear hok hok'
        go_wp2_with fail
        go_quiet ((go_at_call 20; exact Calls.quiet_of_same (c20 _)))
        go_wp2
        go_ret2
        exact ⟨by rw [HN.out]; rfl, below_drewN (Below.refl _ _) _⟩

set_option maxRecDepth 100000 in
set_option maxHeartbeats 2000000 in
theorem rstep_1 (s : ByteArray) (a : UInt8) (r : List UInt8) (w : World) (hL : s.data.toList = a :: r) (hs : s.size ≤ 1099511627776) (hcl : a.toNat < 192) :
    Calls Tryd.prog 25 #[.string s] w fun e w' => e = .returned (rstV (a :: r)) ∧ Below w.heap.size w w' := by
  have hsz : szOf a.toNat = 1 := by unfold szOf; rw [if_neg (by omega), if_neg (by omega), if_neg (by omega)]
  have hba : baOf a.toNat = 0 := by unfold baOf; rw [if_neg (by omega), if_neg (by omega), if_neg (by omega)]
  have hsize : s.size = r.length + 1 := by rw [Lib.size_eq, hL]; rfl
  have h0 : 0 < s.size := by omega
  have hat := at_of hL
  have ha : s[0] = a := hat 0 h0 a rfl
  have HAT := Lib.hid hat; clear hat
  have HSL := Lib.hid hL; clear hL
  have hab : (a.toNat : Int) < 256 := by have := a.toNat_lt; omega
  have HZ := Lib.hid hsize; clear hsize
  have hnz : ((s.size : Int) == 0) = false := by rw [beq_eq_false_iff_ne]; omega
  have c1 := hcl
  have hshort : ¬ s.size < 1 := by omega
  obtain ⟨M, hM⟩ : ∃ M, f64 (a.toNat - 0) (r.take (1 - 1)) = M := ⟨_, rfl⟩
  have hst := stp_ref (a := a) (r := r) (m := M) (by rw [hsz, ← HZ.out]; omega) (by rw [hsz, hba]; exact hM)
  rw [hsz] at hst
  have HST := Lib.hid hst; have HM := Lib.hid hM
  clear hst hM hsz hba
  have hle : 1 ≤ s.size := by omega
  go_enter Tryd.func25, Tryd.ntmps25
  go_wp2
  go_loop [6, 7] (fun z i => ∃ (j m : Nat), 1 ≤ j ∧ j ≤ 1 ∧ i = .int .i64 j ∧ z = .int .i64 m ∧ Hid (f64 m ((r.take (1 - 1)).drop (j - 1)) = M) ∧ Hid (fB j m)) (fun _ i => 1 - (intOf i).toNat)
  case atStart => exact ⟨1, a.toNat - 0, by omega, by omega, rfl, by rw [show ((a.toNat - 0 : Nat) : Int) = (a.toNat : Int) - 0 by omega]; simp, HM.out, by show fB _ _; unfold fB; omega⟩
  case round =>
    obtain ⟨j, m, hj1, hj, rfl, rfl, HF, HB⟩ := hrel
    by_cases hlt : j < 1
    · omega
    · have hj4 : j = 1 := by omega
      have hmM : m = M := by
        rw [← HF.out, List.drop_of_length_le (by rw [List.length_take]; omega)]; rfl
      subst hmM
      have hb := HB.out
      unfold fB at hb
      have hm0 : (m : Int) ≤ 50331647 := by omega
      clear hb hj4
      by_cases hok : okN m = true
      · have hm1 : 0 ≤ (m : Int) ∧ (m : Int) ≤ 1114111 := by rw [okN_iff] at hok; omega
        obtain ⟨S, hS⟩ : ∃ S, S = encS m := ⟨_, rfl⟩
        have c20 : ∀ W, Calls Tryd.prog 20 #[.int .i64 m] W fun e w' => e = .returned (.bool true) ∧ W = w' := fun W => by have := rright_any m W; rw [hok] at this; exact this
        have c21 : ∀ W, Calls Tryd.prog 21 #[.int .i64 m] W fun e w' => e = .returned (.string S) ∧ Below W.heap.size W w' := fun W => by
          have := rbytes_z m W hm1.1 hm1.2
          rw [Int.toNat_natCast, ← hS] at this; exact this
        have hx : (s.extract 0 1).data.toList = (a :: r).take 1 := by
          rw [Lib.extract_data, HSL.out, List.drop_zero, Nat.sub_zero]
        have HQ : Hid ((S.toList == (s.extract 0 1).toList) = true → rstV (a :: r) = .tuple #[.int .i64 m, .int .i64 1]) := fun q => by
          rw [Lib.toList_data, Lib.toList_data, hx, hS] at q
          exact rstV_some (by rw [HST.out, if_pos ⟨hok, by simpa [encS] using q⟩])
        have HQ' : Hid ((S.toList == (s.extract 0 1).toList) = false → rstV (a :: r) = .tuple #[.int .i64 (-1), .int .i64 0]) := fun q => by
          rw [Lib.toList_data, Lib.toList_data, hx, hS] at q
          exact rstV_none (by rw [HST.out, if_neg (fun h => by simp [encS, h.2] at q)])
        clear hok hS hx
        go_wp2_with fail
        go_region_with (first | (go_at_call 20; (with_reducible refine (c20 _).mono ?_); rintro e w1 ⟨rfl, rfl⟩) | (go_at_call 21; (with_reducible refine (c21 _).mono ?_); rintro e w1 ⟨rfl, hb1⟩))
        all_goals
          cases hq : (S.toList == (s.extract 0 1).toList) with
          | true =>
            have HN := Lib.hid (HQ.out hq)
            go_wp2
            go_ret2
            exact ⟨by rw [HN.out]; rfl, ((Below.refl w.heap.size w).drew).trans hb1⟩
          | false =>
            have HN := Lib.hid (HQ'.out hq)
            go_wp2
            go_ret2
            exact ⟨by rw [HN.out]; rfl, ((Below.refl w.heap.size w).drew).trans hb1⟩
      · have hok' : okN m = false := by simpa using hok
        have c20 : ∀ W, Calls Tryd.prog 20 #[.int .i64 m] W fun e w' => e = .returned (.bool false) ∧ w' = W := fun W => by have := (rright_any m W).mono (fun e w' h => And.intro h.1 h.2.symm); rw [hok'] at this; exact this
        have HN := Lib.hid (show rstV (a :: r) = .tuple #[.int .i64 (-1), .int .i64 0] from rstV_none (by rw [HST.out, if_neg (fun h => hok h.1)]))
        clear hok hok'
        go_wp2_with fail
        go_quiet ((go_at_call 20; exact Calls.quiet_of_same (c20 _)))
        go_wp2
        go_ret2
        exact ⟨by rw [HN.out]; rfl, below_drewN (Below.refl _ _) _⟩

theorem rstep_any (s : ByteArray) (w : World) (hs : s.size ≤ 1099511627776) :
    Calls Tryd.prog 25 #[.string s] w fun e w' => e = .returned (rstV s.data.toList) ∧ Below w.heap.size w w' := by
  cases hL : s.data.toList with
  | nil =>
    have : s = ⟨#[]⟩ := by rw [← Lib.mk_data s, hL]
    subst this
    exact (rstep_nil w).mono fun e w' h => ⟨h.1, h.2 ▸ Below.refl _ _⟩
  | cons a r =>
    by_cases c1 : 240 ≤ a.toNat
    · exact rstep_4 s a r w hL hs c1
    by_cases c2 : 224 ≤ a.toNat
    · exact rstep_3 s a r w hL hs ⟨c2, by omega⟩
    by_cases c3 : 192 ≤ a.toNat
    · exact rstep_2 s a r w hL hs ⟨c3, by omega⟩
    · exact rstep_1 s a r w hL hs (by omega)
end Go.Proofs.YtifehdoindbkmaaDoor
