/- The plain mathematics of edit lists: what right edits are, what they make of a text, how they are turned, where a place moves to. Nothing of the program stands here. -/
import Derived.Below
namespace Go.Proofs.Ytpifobaejmfppaa

/-- An edit as data. -/
structure Ed where
  f : Int
  t : Int
  s : ByteArray
  deriving Inhabited

namespace Ed
def bs (e : Ed) : List UInt8 := e.s.data.toList
theorem bs_len (e : Ed) : e.bs.length = e.s.size := Array.length_toList
end Ed

/-- Is the place before the edit's begin, its end not before its begin, nor behind n? -/
def Ed.okB (a n : Int) (e : Ed) : Bool := !(decide (e.f < a) || decide (e.t < e.f) || decide (n < e.t))

theorem Ed.okB_iff (a n : Int) (e : Ed) : e.okB a n = true ↔ a ≤ e.f ∧ e.f ≤ e.t ∧ e.t ≤ n := by
  unfold Ed.okB; simp; omega

def rightB (a n : Int) : List Ed → Bool
  | [] => true
  | e :: r => e.okB a n && rightB e.t n r

theorem rightB_cons (a n : Int) (e : Ed) (r : List Ed) : rightB a n (e :: r) = (e.okB a n && rightB e.t n r) := rfl

theorem rightB_weak {a b n : Int} (h : a ≤ b) {l : List Ed} (hr : rightB b n l = true) : rightB a n l = true := by
  cases l with
  | nil => rfl
  | cons e r =>
    rw [rightB_cons, Bool.and_eq_true, Ed.okB_iff] at *
    exact ⟨⟨by omega, by omega, by omega⟩, hr.2⟩

/-- What right edits make of a text, from a place on. -/
def appl (s : List UInt8) (a : Nat) : List Ed → List UInt8
  | [] => s.drop a
  | e :: r => (s.drop a).take (e.f.toNat - a) ++ (e.bs ++ appl s e.t.toNat r)

theorem appl_cons (s : List UInt8) (a : Nat) (e : Ed) (r : List Ed) : appl s a (e :: r) = (s.drop a).take (e.f.toNat - a) ++ (e.bs ++ appl s e.t.toNat r) := rfl

def tot : List Ed → Nat
  | [] => 0
  | e :: r => e.s.size + tot r

/-- By how much an edit makes a text longer. -/
def Ed.gr (e : Ed) : Int := (e.s.size : Int) - max 0 (e.t - e.f)

def sumGr : List Ed → Int
  | [] => 0
  | e :: r => e.gr + sumGr r

theorem appl_len (s : List UInt8) : ∀ (l : List Ed) (a : Nat), a ≤ s.length → rightB a s.length l = true → ((appl s a l).length : Int) = (s.length : Int) - a + sumGr l
  | [], a, ha, _ => by simp [appl, sumGr]; omega
  | e :: r, a, ha, h => by
    rw [rightB_cons, Bool.and_eq_true, Ed.okB_iff] at h
    obtain ⟨⟨h1, h2, h3⟩, h4⟩ := h
    have ht : ((e.t.toNat : Nat) : Int) = e.t := by omega
    have ih := appl_len s r e.t.toNat (by omega) (by rw [ht]; exact h4)
    rw [appl_cons, List.length_append, List.length_append, Ed.bs_len, List.length_take, List.length_drop]
    simp only [sumGr, Ed.gr]
    omega

theorem appl_le (s : List UInt8) : ∀ (l : List Ed) (a : Nat), (appl s a l).length ≤ s.length * (l.length + 1) + tot l
  | [], a => by simp [appl, tot]
  | e :: r, a => by
    have ih := appl_le s r e.t.toNat
    rw [appl_cons, List.length_append, List.length_append, Ed.bs_len, List.length_take, List.length_drop]
    simp only [tot, List.length_cons]
    have : s.length * (r.length + 1 + 1) = s.length * (r.length + 1) + s.length := by rw [Nat.mul_add]; simp
    omega

theorem sumGr_le : ∀ (l : List Ed), sumGr l ≤ tot l
  | [] => by simp [sumGr, tot]
  | e :: r => by
    have := sumGr_le r
    simp only [sumGr, tot, Ed.gr]
    omega

theorem tot_drop_le (l : List Ed) (k : Nat) : tot (l.drop k) ≤ tot l := by
  induction l generalizing k with
  | nil => simp [tot]
  | cons e r ih =>
    cases k with
    | zero => simp
    | succ k => simp only [List.drop_succ_cons, tot]; have := ih k; omega

theorem size_le_tot : ∀ {l : List Ed} {e : Ed}, e ∈ l → e.s.size ≤ tot l
  | x :: r, e, h => by
    rcases List.mem_cons.1 h with rfl | h
    · simp only [tot]; omega
    · have := size_le_tot h; simp only [tot]; omega

/-- The right-to-left way of making the text. -/
theorem appl_back (s : List UInt8) (a : Nat) (e : Ed) (r : List Ed) (h : rightB a s.length (e :: r) = true) :
    (s.take e.t.toNat ++ appl s e.t.toNat r).take e.f.toNat ++ (e.bs ++ (s.take e.t.toNat ++ appl s e.t.toNat r).drop e.t.toNat) = s.take a ++ appl s a (e :: r) := by
  rw [rightB_cons, Bool.and_eq_true, Ed.okB_iff] at h
  obtain ⟨⟨h1, h2, h3⟩, _⟩ := h
  have e1 : (s.take e.t.toNat ++ appl s e.t.toNat r).take e.f.toNat = s.take e.f.toNat := by
    rw [List.take_append_of_le_length (by rw [List.length_take]; omega), List.take_take]
    congr 1; omega
  have e2 : (s.take e.t.toNat ++ appl s e.t.toNat r).drop e.t.toNat = appl s e.t.toNat r := by
    rw [List.drop_append_of_le_length (by rw [List.length_take]; omega)]
    rw [List.drop_of_length_le (by rw [List.length_take]; omega)]; simp
  rw [e1, e2, appl_cons, ← List.append_assoc (s.take a)]
  congr 1
  have : e.f.toNat = a + (e.f.toNat - a) := by omega
  conv => lhs; rw [this]
  rw [List.take_add]

/-- The edits that undo these. -/
def turn (s : List UInt8) (m : Int) : List Ed → List Ed
  | [] => []
  | e :: r => ⟨e.f + m, e.f + m + e.s.size, ⟨((s.drop e.f.toNat).take (e.t.toNat - e.f.toNat)).toArray⟩⟩ :: turn s (m + e.gr) r

theorem turn_len (s : List UInt8) : ∀ (l : List Ed) (m : Int), (turn s m l).length = l.length
  | [], _ => rfl
  | e :: r, m => by simp [turn, turn_len s r]

theorem turn_right (s : List UInt8) (n : Int) : ∀ (l : List Ed) (a : Nat) (m : Int), a ≤ s.length → rightB a s.length l = true → 0 ≤ a + m → (s.length : Int) + m + sumGr l = n → rightB (a + m) n (turn s m l) = true
  | [], _, _, _, _, _, _ => rfl
  | e :: r, a, m, ha, h, hm, hn => by
    rw [rightB_cons, Bool.and_eq_true, Ed.okB_iff] at h
    obtain ⟨⟨h1, h2, h3⟩, h4⟩ := h
    have ht : ((e.t.toNat : Nat) : Int) = e.t := by omega
    have hg : e.gr = (e.s.size : Int) - (e.t - e.f) := by unfold Ed.gr; omega
    simp only [sumGr] at hn
    have hl := appl_len s r e.t.toNat (by omega) (by rw [ht]; exact h4)
    have ih := turn_right s n r e.t.toNat (m + e.gr) (by omega) (by rw [ht]; exact h4) (by omega) (by omega)
    rw [turn, rightB_cons, Bool.and_eq_true, Ed.okB_iff]
    refine ⟨⟨by show _ ≤ e.f + m; omega, by show e.f + m ≤ e.f + m + e.s.size; omega, by show e.f + m + (e.s.size : Int) ≤ n; omega⟩, ?_⟩
    show rightB (e.f + m + e.s.size) n _ = true
    rw [show e.f + m + (e.s.size : Int) = (e.t.toNat : Int) + (m + e.gr) by omega]
    exact ih

theorem turn_appl (s T : List UInt8) : ∀ (l : List Ed) (X : List UInt8) (a : Nat) (m : Int), a ≤ s.length → rightB a s.length l = true → (X.length : Int) = a + m → T = X ++ appl s a l → appl T (a + m).toNat (turn s m l) = s.drop a
  | [], X, a, m, _, _, hX, hT => by
    have : (↑a + m).toNat = X.length := by omega
    rw [turn, appl, hT, this]; simp [appl]
  | e :: r, X, a, m, ha, h, hX, hT => by
    rw [rightB_cons, Bool.and_eq_true, Ed.okB_iff] at h
    obtain ⟨⟨h1, h2, h3⟩, h4⟩ := h
    have ht : ((e.t.toNat : Nat) : Int) = e.t := by omega
    have hg : e.gr = (e.s.size : Int) - (e.t - e.f) := by unfold Ed.gr; omega
    have hl1 : ((s.drop a).take (e.f.toNat - a)).length = e.f.toNat - a := by rw [List.length_take, List.length_drop]; omega
    have ih := turn_appl s T r (X ++ (s.drop a).take (e.f.toNat - a) ++ e.bs) e.t.toNat (m + e.gr) (by omega) (by rw [ht]; exact h4)
      (by rw [List.length_append, List.length_append, Ed.bs_len, hl1]; omega) (by rw [hT, appl_cons]; simp [List.append_assoc])
    have hx : (↑a + m).toNat = X.length := by omega
    rw [turn, appl_cons]
    show (T.drop (↑a + m).toNat).take ((e.f + m).toNat - (↑a + m).toNat) ++ (((s.drop e.f.toNat).take (e.t.toNat - e.f.toNat)).toArray.toList ++ appl T (e.f + m + e.s.size).toNat _) = _
    rw [show e.f + m + (e.s.size : Int) = (e.t.toNat : Int) + (m + e.gr) by omega, ih, hx, show (e.f + m).toNat - X.length = e.f.toNat - a by omega, hT, appl_cons]
    rw [List.drop_append_of_le_length (Nat.le_refl _), List.drop_length, List.nil_append, List.take_append_of_le_length (by omega), List.take_of_length_le (by omega)]
    simp only
    have e1 : s.drop e.f.toNat = (s.drop e.f.toNat).take (e.t.toNat - e.f.toNat) ++ s.drop e.t.toNat := by
      have := (List.take_append_drop (e.t.toNat - e.f.toNat) (s.drop e.f.toNat)).symm
      rwa [List.drop_drop, show e.f.toNat + (e.t.toNat - e.f.toNat) = e.t.toNat by omega] at this
    have e2 : s.drop a = (s.drop a).take (e.f.toNat - a) ++ s.drop e.f.toNat := by
      have := (List.take_append_drop (e.f.toNat - a) (s.drop a)).symm
      rwa [List.drop_drop, show a + (e.f.toNat - a) = e.f.toNat by omega] at this
    rw [← e1, ← e2]

/-- Where a place stands: its begin, and by how much it is moved. -/
def mvStep (at_ : Int) (p : Int × Int) (e : Ed) : Int × Int := if e.t ≤ at_ then (p.1, p.2 + e.gr) else if e.f < p.1 then (e.f, p.2) else p
def mv (at_ : Int) (l : List Ed) : Int × Int := l.foldl (mvStep at_) (at_, 0)

def greatB (l : List Ed) : Bool := l.any (fun e => decide (100 < e.s.size)) || decide (30 < l.length)

theorem tot_le_of_small : ∀ (l : List Ed), l.any (fun e => decide (100 < e.s.size)) = false → tot l ≤ 100 * l.length
  | [], _ => by simp [tot]
  | e :: r, h => by
    rw [List.any_cons, Bool.or_eq_false_iff] at h
    have ih := tot_le_of_small r h.2
    have h1 := h.1
    simp at h1
    simp only [tot, List.length_cons]
    omega

end Go.Proofs.Ytpifobaejmfppaa
