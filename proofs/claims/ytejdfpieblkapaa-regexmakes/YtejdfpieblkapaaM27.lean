/- What class reads: the mathematics, and the comparison of sets. -/
import Derived.Test.YtejdfpieblkapaaM26
namespace Go.Proofs.Ytejdfpieblkapaa
open Go.RowKit Go.Shelf

def Ws.un (s t : Ws) : Ws := ⟨s.a ||| t.a, s.b ||| t.b, s.c ||| t.c, s.d ||| t.d⟩
theorem Ws.Ok.un {s t : Ws} (hs : s.Ok) (ht : t.Ok) : (s.un t).Ok := ⟨Nat.or_lt_two_pow hs.a ht.a, Nat.or_lt_two_pow hs.b ht.b, Nat.or_lt_two_pow hs.c ht.c, Nat.or_lt_two_pow hs.d ht.d⟩
def ws0 : Ws := ⟨0, 0, 0, 0⟩
/-- Letters up to the bracket. -/
def classP (L : List UInt8) : Nat → Ws → Nat → Option (Ws × Nat)
  | 0, _, _ => none
  | n + 1, s, i => if s ≠ ws0 ∧ nx L i = 93 then some (s, i + 1) else (lettersF L i).bind fun x => classP L n (s.un x.1) x.2
/-- A class, its end among it. -/
def classF (L : List UInt8) (i : Nat) : Option (Ws × Nat) :=
  if nx L i = 94 then (classP L (L.length + 1) ws0 (i + 1)).map (fun x => (x.1.inv 4, x.2)) else classP L (L.length + 1) ws0 i
theorem lettersF_ok {s : ByteArray} {i j : Nat} {t : Ws} (h : lettersF s.data.toList i = some (t, j)) (hi : i ≤ s.size) : i < j ∧ j ≤ s.size ∧ t.Ok := by
  unfold lettersF at h
  split at h
  · cases h
  · rename_i f k hf
    have h1 := letF_ok hf hi ins0
    split at h
    · rename_i h45
      have h2 := nx_in h45 (by omega)
      split at h
      · cases h
      · rename_i g m hg
        have h3 := letF_ok hg (by omega) ins0
        split at h
        · cases h
        · injection h with h; injection h with e1 e2
          subst e1
          exact ⟨by omega, by omega, btw_ok _ _⟩
    · injection h with h; injection h with e1 e2
      subst e1
      exact ⟨by omega, by omega, btw_ok _ _⟩

theorem eq_in (x : Nat) (d : Nat) (w : World) : (Op.equalIn (d + 1) 40 (.int .u64 (x : Int)) (.int .u64 0)).run Try.prog w = .ok (decide (x = 0)) w := by
  rw [run_equalIn_int w d 40 .u64 .u64 x 0 Try.underlying40]
  congr 1
  rw [Bool.eq_iff_iff]
  simp
theorem part40 (xs : Array Value) (i : Nat) (v : Value) (h : xs[i]? = some v) (w : World) : (part 40 xs i).run Try.prog w = .ok v w := by
  simp [part, Try.isAgg40, h]
theorem eql_ws (s : Ws) (w : World) : (binOp .eql 41 (.agg #[.int .u64 s.a, .int .u64 s.b, .int .u64 s.c, .int .u64 s.d]) (.agg #[.int .u64 0, .int .u64 0, .int .u64 0, .int .u64 0])).run Try.prog w = .ok (.bool (decide (s = ws0))) w := by
  rw [run_eql_struct]
  have h : ∀ d, (Op.equalIn (d + 2) 41 (.agg #[.int .u64 s.a, .int .u64 s.b, .int .u64 s.c, .int .u64 s.d]) (.agg #[.int .u64 0, .int .u64 0, .int .u64 0, .int .u64 0])).run Try.prog w = .ok (decide (s = ws0)) w := fun d => by
    have e0 := eq_in s.a d w
    have e1 := eq_in s.b d w
    have e2 := eq_in s.c d w
    have e3 := eq_in s.d d w
    have hd : decide (s = ws0) = (decide (s.a = 0) && decide (s.b = 0) && decide (s.c = 0) && decide (s.d = 0)) := by
      rw [Bool.eq_iff_iff]
      simp only [decide_eq_true_eq, Bool.and_eq_true]
      constructor
      · rintro rfl; exact ⟨⟨⟨rfl, rfl⟩, rfl⟩, rfl⟩
      · rintro ⟨⟨⟨h0, h1⟩, h2⟩, h3⟩
        cases s
        simp only at h0 h1 h2 h3
        subst h0 h1 h2 h3
        rfl
    rw [Op.equalIn, hd]
    generalize decide (s.a = 0) = b0 at e0
    generalize decide (s.b = 0) = b1 at e1
    generalize decide (s.c = 0) = b2 at e2
    generalize decide (s.d = 0) = b3 at e3
    cases b0 <;> cases b1 <;> cases b2 <;> cases b3 <;> simp [run_underlying Try.underlying41, Try.sizeOf40, List.range', part40, Result.andThen, e0, e1, e2, e3]
  rw [h 9998]
  rfl
end Go.Proofs.Ytejdfpieblkapaa
