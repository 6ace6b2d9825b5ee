/- Plain mathematics of code points and their bytes: what a code point's bytes are, and which code point begins a list of bytes. -/
import Derived.Lib.Strings
namespace Go.Proofs.YtifehdoindbkmaaDoor

/-- Is a number a code point? -/
def okN (n : Int) : Bool := decide (0 ≤ n ∧ n ≤ 1114111 ∧ (n < 55296 ∨ 57343 < n))
theorem okN_iff {n : Int} : okN n = true ↔ 0 ≤ n ∧ n ≤ 1114111 ∧ (n < 55296 ∨ 57343 < n) := by simp [okN]

/-- A code point's bytes. -/
def enc (n : Nat) : List UInt8 :=
  if n < 128 then [UInt8.ofNat n]
  else if n < 2048 then [UInt8.ofNat (192 + n / 64), UInt8.ofNat (128 + n % 64)]
  else if n < 65536 then [UInt8.ofNat (224 + n / 4096), UInt8.ofNat (128 + n / 64 % 64), UInt8.ofNat (128 + n % 64)]
  else [UInt8.ofNat (240 + n / 262144), UInt8.ofNat (128 + n / 4096 % 64), UInt8.ofNat (128 + n / 64 % 64), UInt8.ofNat (128 + n % 64)]

/-- A first byte's part with the bytes behind it; none, if one of these is no such byte. -/
def jn : Nat → List UInt8 → Option Nat
  | n, [] => some n
  | n, c :: r => if 128 ≤ c.toNat ∧ c.toNat ≤ 191 then jn (n * 64 + (c.toNat - 128)) r else none

/-- The code point with which bytes begin, and how many bytes it has: by its first byte. -/
def stp : List UInt8 → Option (Nat × Nat)
  | [] => none
  | a :: r =>
    if a.toNat < 128 then some (a.toNat, 1)
    else if a.toNat < 192 then none
    else if a.toNat < 224 then
      if r.length < 1 then none else (jn (a.toNat - 192) (r.take 1)).bind fun n => if 128 ≤ n then some (n, 2) else none
    else if a.toNat < 240 then
      if r.length < 2 then none else (jn (a.toNat - 224) (r.take 2)).bind fun n => if 2048 ≤ n ∧ (n < 55296 ∨ 57343 < n) then some (n, 3) else none
    else if a.toNat < 245 then
      if r.length < 3 then none else (jn (a.toNat - 240) (r.take 3)).bind fun n => if 65536 ≤ n ∧ n ≤ 1114111 then some (n, 4) else none
    else none

theorem u8_nat (n : Nat) (h : n < 256) : (UInt8.ofNat n).toNat = n := by
  rw [UInt8.toNat_ofNat']; exact Nat.mod_eq_of_lt h

theorem stp_enc (n : Nat) (r : List UInt8) (h : okN n = true) : stp (enc n ++ r) = some (n, (enc n).length) := by
  rw [okN_iff] at h
  unfold enc
  split
  · rename_i h1
    simp only [List.cons_append, List.nil_append, stp]
    rw [u8_nat n (by omega), if_pos h1]; rfl
  · split
    · rename_i h1 h2
      simp only [List.cons_append, List.nil_append, stp]
      rw [u8_nat _ (by omega), if_neg (by omega), if_neg (by omega), if_pos (by omega), if_neg (by simp)]
      simp only [List.take_succ_cons, List.take_zero, jn]
      rw [u8_nat _ (by omega), if_pos (by omega), Option.bind_some, if_pos (by omega)]
      simp only [List.length_cons, List.length_nil]
      exact congrArg some (Prod.ext (by show _ = n; omega) rfl)
    · split
      · rename_i h1 h2 h3
        simp only [List.cons_append, List.nil_append, stp]
        rw [u8_nat _ (by omega), if_neg (by omega), if_neg (by omega), if_neg (by omega), if_pos (by omega), if_neg (by simp)]
        simp only [List.take_succ_cons, List.take_zero, jn]
        rw [u8_nat _ (by omega), u8_nat _ (by omega), if_pos (by omega), if_pos (by omega), Option.bind_some, if_pos (by omega)]
        simp only [List.length_cons, List.length_nil]
        exact congrArg some (Prod.ext (by show _ = n; omega) rfl)
      · rename_i h1 h2 h3
        simp only [List.cons_append, List.nil_append, stp]
        rw [u8_nat _ (by omega), if_neg (by omega), if_neg (by omega), if_neg (by omega), if_neg (by omega), if_pos (by omega), if_neg (by simp)]
        simp only [List.take_succ_cons, List.take_zero, jn]
        rw [u8_nat _ (by omega), u8_nat _ (by omega), u8_nat _ (by omega), if_pos (by omega), if_pos (by omega), if_pos (by omega), Option.bind_some, if_pos (by omega)]
        simp only [List.length_cons, List.length_nil]
        exact congrArg some (Prod.ext (by show _ = n; omega) rfl)

theorem u8_eq {a : UInt8} {n : Nat} (h : a.toNat = n) : UInt8.ofNat n = a := by
  subst h; simp

theorem stp_some {l : List UInt8} {n k : Nat} (h : stp l = some (n, k)) : okN n = true ∧ k = (enc n).length ∧ l = enc n ++ l.drop k := by
  rw [okN_iff]
  match l, h with
  | a :: r, h =>
    have ha : a.toNat < 256 := a.toNat_lt
    simp only [stp] at h
    by_cases h1 : a.toNat < 128
    · rw [if_pos h1] at h
      simp only [Option.some.injEq, Prod.mk.injEq] at h
      obtain ⟨rfl, rfl⟩ := h
      unfold enc
      rw [if_pos h1]
      refine ⟨by omega, rfl, ?_⟩
      rw [u8_eq rfl]; rfl
    rw [if_neg h1] at h
    by_cases h2 : a.toNat < 192
    · rw [if_pos h2] at h; cases h
    rw [if_neg h2] at h
    by_cases h3 : a.toNat < 224
    · rw [if_pos h3] at h
      match r, h with
      | b :: r, h =>
        have hb : b.toNat < 256 := b.toNat_lt
        rw [if_neg (by simp)] at h
        simp only [List.take_succ_cons, List.take_zero, jn] at h
        by_cases c1 : 128 ≤ b.toNat ∧ b.toNat ≤ 191
        · rw [if_pos c1, Option.bind_some] at h
          split at h
          · simp only [Option.some.injEq, Prod.mk.injEq] at h
            obtain ⟨rfl, rfl⟩ := h
            unfold enc
            rw [if_neg (by omega), if_pos (by omega)]
            refine ⟨by omega, rfl, ?_⟩
            rw [u8_eq (a := a) (by omega), u8_eq (a := b) (by omega)]; rfl
          · cases h
        · rw [if_neg c1] at h; cases h
    rw [if_neg h3] at h
    by_cases h4 : a.toNat < 240
    · rw [if_pos h4] at h
      match r, h with
      | [], h => simp at h
      | [b], h => simp at h
      | b :: c :: r, h =>
        have hb : b.toNat < 256 := b.toNat_lt
        have hc : c.toNat < 256 := c.toNat_lt
        rw [if_neg (by simp)] at h
        simp only [List.take_succ_cons, List.take_zero, jn] at h
        by_cases c1 : 128 ≤ b.toNat ∧ b.toNat ≤ 191
        · rw [if_pos c1] at h
          by_cases c2 : 128 ≤ c.toNat ∧ c.toNat ≤ 191
          · rw [if_pos c2, Option.bind_some] at h
            split at h
            · simp only [Option.some.injEq, Prod.mk.injEq] at h
              obtain ⟨rfl, rfl⟩ := h
              unfold enc
              rw [if_neg (by omega), if_neg (by omega), if_pos (by omega)]
              refine ⟨by omega, rfl, ?_⟩
              rw [u8_eq (a := a) (by omega), u8_eq (a := b) (by omega), u8_eq (a := c) (by omega)]; rfl
            · cases h
          · rw [if_neg c2] at h; cases h
        · rw [if_neg c1] at h; cases h
    rw [if_neg h4] at h
    by_cases h5 : a.toNat < 245
    · rw [if_pos h5] at h
      match r, h with
      | [], h => simp at h
      | [b], h => simp at h
      | [b, c], h => simp at h
      | b :: c :: d :: r, h =>
        have hb : b.toNat < 256 := b.toNat_lt
        have hc : c.toNat < 256 := c.toNat_lt
        have hd : d.toNat < 256 := d.toNat_lt
        rw [if_neg (by simp)] at h
        simp only [List.take_succ_cons, List.take_zero, jn] at h
        by_cases c1 : 128 ≤ b.toNat ∧ b.toNat ≤ 191
        · rw [if_pos c1] at h
          by_cases c2 : 128 ≤ c.toNat ∧ c.toNat ≤ 191
          · rw [if_pos c2] at h
            by_cases c3 : 128 ≤ d.toNat ∧ d.toNat ≤ 191
            · rw [if_pos c3, Option.bind_some] at h
              split at h
              · simp only [Option.some.injEq, Prod.mk.injEq] at h
                obtain ⟨rfl, rfl⟩ := h
                unfold enc
                rw [if_neg (by omega), if_neg (by omega), if_neg (by omega)]
                refine ⟨by omega, rfl, ?_⟩
                rw [u8_eq (a := a) (by omega), u8_eq (a := b) (by omega), u8_eq (a := c) (by omega), u8_eq (a := d) (by omega)]; rfl
              · cases h
            · rw [if_neg c3] at h; cases h
          · rw [if_neg c2] at h; cases h
        · rw [if_neg c1] at h; cases h
    rw [if_neg h5] at h; cases h

theorem enc_pos (n : Nat) : 1 ≤ (enc n).length ∧ (enc n).length ≤ 4 := by
  unfold enc
  split
  · simp
  · split
    · simp
    · split <;> simp

theorem enc_inj {n m : Nat} (hn : okN n = true) (hm : okN m = true) {r t : List UInt8} (h : enc n ++ r = enc m ++ t) : n = m := by
  have h1 := stp_enc n r hn
  rw [h, stp_enc m t hm] at h1
  simp at h1; exact h1.1.symm

/-- A part of a code point's bytes begins with none. -/
theorem stp_cut (n j : Nat) (h : okN n = true) (hj : j < (enc n).length) : stp ((enc n).take j) = none := by
  cases hs : stp ((enc n).take j) with
  | none => rfl
  | some p =>
    obtain ⟨m, k⟩ := p
    obtain ⟨h1, h2, h3⟩ := stp_some hs
    have h4 : enc n ++ [] = enc m ++ (((enc n).take j).drop k ++ (enc n).drop j) := by
      rw [← List.append_assoc, ← h3, List.take_append_drop, List.append_nil]
    have := enc_inj h h1 h4
    subst this
    have h5 := congrArg List.length h3
    rw [List.length_append, List.length_take] at h5
    omega

theorem stp_nil : stp [] = none := rfl
theorem stp_len {l : List UInt8} {n k : Nat} (h : stp l = some (n, k)) : 1 ≤ k ∧ k ≤ 4 ∧ k ≤ l.length := by
  obtain ⟨_, h2, h3⟩ := stp_some h
  have := enc_pos n
  have h5 := congrArg List.length h3
  rw [List.length_append] at h5
  omega
end Go.Proofs.YtifehdoindbkmaaDoor
