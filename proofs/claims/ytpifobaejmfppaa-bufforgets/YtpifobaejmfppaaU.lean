/- What the reader of runs does, with gather and without. -/
import Derived.Test.YtpifobaejmfppaaT
namespace Go.Proofs.Ytpifobaejmfppaa
open Go.RowKit

/-- Runs that a slice shows. -/
def RnsS (w : World) (A : Option Addr) (L : List Rn) : Prop :=
  L ≠ [] → ∃ g o cur fz, A = some ⟨g, o, none⟩ ∧ w.heap[g]? = some (.cells cur 80 fz) ∧ ∀ i r, L[i]? = some r → cur[o + i * 3]? = some (.string r.x) ∧ cur[o + i * 3 + 1]? = some (.bool r.kept) ∧ cur[o + i * 3 + 2]? = some (.int .i64 r.f)

/-- The reader, as it lies. -/
structure RdAt (w : World) (Br : Nat) (L : List Rn) (nl o : Nat) (A : Option Addr) (c : Nat) : Prop where
  blk : w.heap[Br]? = some (.cells #[.slice A nl c, .int .i64 o] 85 (0, 0))
  len : L.length = nl
  cap : nl ≤ c
  mx : c ≤ 9223372036854775807
  rns : RnsS w A L
  off : ∀ r t, L = r :: t → o ≤ r.x.size
  bd : ∀ r ∈ L, r.x.size ≤ 1099511627776 ∧ 0 ≤ r.f ∧ r.f ≤ 1099511627776

def cutL : List Rn → Nat → List Rn
  | [], _ => []
  | r :: t, o => r.cut o :: t
def rem_ : List Rn → Nat → List UInt8
  | [], _ => []
  | r :: t, o => r.bs.drop o ++ rnText t

theorem RnsS.tail {w : World} {A : Option Addr} {r : Rn} {t : List Rn} {c : Nat} (h : RnsS w A (r :: t)) (hc : t.length + 1 ≤ c) : RnsS w (if c = 1 then A else A.map (·.add 3)) t := by
  intro ht
  obtain ⟨g, o, cur, fz, hA, hg, hr⟩ := h (by simp)
  have : t.length ≠ 0 := fun h0 => ht (List.eq_nil_of_length_eq_zero h0)
  rw [if_neg (by omega)]
  refine ⟨g, o + 3, cur, fz, by rw [hA]; simp [Addr.add], hg, fun i x hx => ?_⟩
  have := hr (i + 1) x (by simpa using hx)
  rw [show o + (i + 1) * 3 = o + 3 + i * 3 by omega] at this
  exact this

theorem RnsS.keep {w w' : World} {A : Option Addr} {L : List Rn} (h : RnsS w A L) (hk : ∀ (k : Nat) cur fz, w.heap[k]? = some (.cells cur 80 fz) → w'.heap[k]? = some (.cells cur 80 fz)) : RnsS w' A L := by
  intro hne
  obtain ⟨g, o, cur, fz, hA, hg, hr⟩ := h hne
  exact ⟨g, o, cur, fz, hA, hk g cur fz hg, hr⟩

theorem rn_step_ok {S : List UInt8} {kept : Int} {r : Rn} {t : List Rn} {o k : Nat} (h : rnOK S kept (r.cut o :: t)) (hk : o + k ≤ r.x.size) (hf : r.kept = true) :
    kept ≤ r.f + o ∧ 0 ≤ r.f + o ∧ r.f + o + k ≤ S.length ∧ (r.part o k).bs = (S.drop (r.f + o).toNat).take k ∧ (r.part o k).x.size = k ∧ rnOK S (r.f + o + k) (r.cut (o + k) :: t) ∧ (o + k = r.x.size → rnOK S (r.f + o + k) t) := by
  have hx : (r.cut o).x.size = r.x.size - o := by show (r.x.extract o r.x.size).size = _; rw [ByteArray.size_extract]; omega
  have hx2 : (r.cut (o + k)).x.size = r.x.size - (o + k) := by show (r.x.extract (o + k) r.x.size).size = _; rw [ByteArray.size_extract]; omega
  have hps : (r.part o k).x.size = k := by show (r.x.extract o (o + k)).size = _; rw [ByteArray.size_extract]; omega
  unfold rnOK at h
  rw [if_pos (show (r.cut o).kept = true from hf)] at h
  obtain ⟨a1, a2, a3, a4, a5⟩ := h
  have a1' : kept ≤ r.f + o := a1
  have a2' : 0 ≤ r.f + (o : Int) := a2
  rw [hx] at a3 a4 a5
  have a3' : r.f + o + ((r.x.size - o : Nat) : Int) ≤ S.length := a3
  have a4' : r.x.data.toList.drop o = (S.drop (r.f + o).toNat).take (r.x.size - o) := by
    have : (r.cut o).bs = r.x.data.toList.drop o := ext_to_end r.x o
    rw [← this]; exact a4
  refine ⟨a1', a2', by omega, ?_, hps, ?_, ?_⟩
  · show (r.x.extract o (o + k)).data.toList = _
    rw [Lib.extract_data, a4', List.take_take]; congr 1; omega
  · unfold rnOK
    rw [if_pos (show (r.cut (o + k)).kept = true from hf), hx2]
    refine ⟨?_, ?_, ?_, ?_, ?_⟩
    · show r.f + o + k ≤ r.f + ((o + k : Nat) : Int); omega
    · show 0 ≤ r.f + ((o + k : Nat) : Int); omega
    · show r.f + ((o + k : Nat) : Int) + _ ≤ _; omega
    · show (r.x.extract (o + k) r.x.size).data.toList = (S.drop (r.f + ((o + k : Nat) : Int)).toNat).take _
      rw [ext_to_end, ← List.drop_drop, a4', List.drop_take, List.drop_drop]
      congr 1
      · omega
      · congr 1; omega
    · have e : (r.cut o).f + ((r.x.size - o : Nat) : Int) = (r.cut (o + k)).f + ((r.x.size - (o + k) : Nat) : Int) := by show r.f + o + _ = r.f + ((o + k : Nat) : Int) + _; omega
      rw [← e]; exact a5
  · intro he
    have e : (r.cut o).f + ((r.x.size - o : Nat) : Int) = r.f + o + k := by show r.f + o + _ = _; omega
    rw [← e]; exact a5

theorem rn_step_no {S : List UInt8} {kept : Int} {r : Rn} {t : List Rn} {o o' : Nat} (h : rnOK S kept (r.cut o :: t)) (hf : r.kept = false) : rnOK S kept (r.cut o' :: t) ∧ rnOK S kept t := by
  have hx : ∀ q, rnOK S kept (r.cut q :: t) = rnOK S kept t := fun q => by
    show (if (r.cut q).kept then _ else rnOK S kept t) = _
    rw [if_neg (show ¬ (r.cut q).kept = true by rw [show (r.cut q).kept = r.kept from rfl, hf]; simp)]
  rw [hx] at h ⊢
  exact ⟨h, h⟩

theorem rem_step (r : Rn) (t : List Rn) (o k : Nat) (hk : o + k ≤ r.x.size) :
    (rem_ (r :: t) o).take k = (r.part o k).bs ∧ rem_ (r :: t) (o + k) = (rem_ (r :: t) o).drop k ∧ (o + k = r.x.size → rem_ t 0 = (rem_ (r :: t) o).drop k) := by
  have hl := Rn.bs_len r
  have e1 : (rem_ (r :: t) o).drop k = r.bs.drop (o + k) ++ rnText t := by
    unfold rem_
    rw [List.drop_append_of_le_length (by rw [List.length_drop]; omega), List.drop_drop]
  refine ⟨?_, by rw [e1]; rfl, fun he => ?_⟩
  · unfold rem_
    rw [List.take_append_of_le_length (by rw [List.length_drop]; omega)]
    show _ = (r.x.extract o (o + k)).data.toList
    rw [Lib.extract_data]
    congr 1; omega
  · rw [e1, List.drop_of_length_le (by omega), List.nil_append]
    cases t with
    | nil => rfl
    | cons x y => simp [rem_, rnText]

/-- The closure gather, as a value. -/
def gaVal (Bw Bp Bk : Nat) : Value := .func (.func 49) #[] #[.pointer (some ⟨Bw, 0, none⟩), .pointer (some ⟨Bp, 0, none⟩), .pointer (some ⟨Bk, 0, none⟩)]

/-- All of Compose's variables, at work. -/
def RSt (base Bs Bo Bw Bk Bp Br : Nat) (s : ByteArray) (C R : List UInt8) (N : Nat) (row0 : Option Nat) (w0 w : World) : Prop :=
  ∃ out n wi kept A c L nl o Ar cr, CSt base Bs Bo Bw Bk s out n wi kept A c w ∧ One w Bp 71 (pdVal Bs Bo Bw Bk) ∧ RdAt w Br L nl o Ar cr ∧ GS s.data.toList C out wi kept ∧ rnOK s.data.toList kept (cutL L o) ∧ rem_ L o = R ∧ n + nl ≤ N ∧ Below base w0 w ∧ Kp [Bo, Bw, Bk, Br] row0 w0 w ∧ RowNext w0 row0 (Value.slice A n c).ownBlock

theorem CSt.same {base Bs Bo Bw Bk : Nat} {s : ByteArray} {out : List Ed} {n : Nat} {wi : List UInt8} {kept : Int} {A : Option Addr} {c : Nat} {w w' : World} (h : CSt base Bs Bo Bw Bk s out n wi kept A c w) (hb : Below w.heap.size w w') : CSt base Bs Bo Bw Bk s out n wi kept A c w' :=
  ⟨(hb.block _ h.hs.lt).trans h.hs, (hb.block _ h.ho.lt).trans h.ho, (hb.block _ h.hk.lt).trans h.hk, isb_keep h.hw (fun k _o hk _ => (hb.block k (lt_of_heap hk)).trans hk), own_below h.own hb, h.hn, h.b1, h.b2, Nat.le_trans h.b3 hb.size⟩

/-- Where two states of the reader's loop meet. -/
theorem rloop_close {base Bs Bo Bw Bk Bp Br : Nat} {s : ByteArray} {C R : List UInt8} {N m0 m k : Nat} {row0 rowA : Option Nat} {w0 wr w' : World} {out' : List Ed} {n' : Nat} {wi' : List UInt8} {kept' : Int} {A' : Option Addr} {c' : Nat} {L' : List Rn} {nl' o' : Nat} {Ar' : Option Addr} {cr' : Nat}
    (hm : m ≤ m0) (hk : k ≤ m) (h1 : CSt base Bs Bo Bw Bk s out' n' wi' kept' A' c' w') (h2 : One w' Bp 71 (pdVal Bs Bo Bw Bk)) (h3 : RdAt w' Br L' nl' o' Ar' cr') (h4 : GS s.data.toList ((C ++ R.take (m0 - m)) ++ (R.drop (m0 - m)).take k) out' wi' kept') (h5 : rnOK s.data.toList kept' (cutL L' o')) (h6 : rem_ L' o' = (R.drop (m0 - m)).drop k)
    (h7 : n' + nl' ≤ N + 1) (h8 : k < m → n' + nl' ≤ N) (hb : Below base w0 wr) (hb' : Below base wr w') (hkp : Kp [Bo, Bw, Bk, Br] row0 w0 wr) (hkp' : Kp [Bo, Bw, Bk, Br] rowA wr w') (hr : RowNext w0 row0 rowA) (hr' : RowNext wr rowA (Value.slice A' n' c').ownBlock) :
    RSt base Bs Bo Bw Bk Bp Br s (C ++ R.take (m0 - (m - k))) (R.drop (m0 - (m - k))) (N + 1) row0 w0 w' ∧ (0 < m - k → RSt base Bs Bo Bw Bk Bp Br s (C ++ R.take (m0 - (m - k))) (R.drop (m0 - (m - k))) N row0 w0 w') := by
  have e1 : C ++ R.take (m0 - (m - k)) = (C ++ R.take (m0 - m)) ++ (R.drop (m0 - m)).take k := by
    rw [show m0 - (m - k) = (m0 - m) + k by omega, List.take_add, List.append_assoc]
  have e2 : R.drop (m0 - (m - k)) = (R.drop (m0 - m)).drop k := by
    rw [show m0 - (m - k) = (m0 - m) + k by omega, List.drop_drop]
  rw [e1, e2]
  exact ⟨⟨out', n', wi', kept', A', c', L', nl', o', Ar', cr', h1, h2, h3, h4, h5, h6, h7, hb.trans hb', hkp.trans hkp' hr, hr.trans hr' hkp.1⟩, fun h0 => ⟨out', n', wi', kept', A', c', L', nl', o', Ar', cr', h1, h2, h3, h4, h5, h6, h8 (by omega), hb.trans hb', hkp.trans hkp' hr, hr.trans hr' hkp.1⟩⟩

theorem blk_ne_one {w : World} {b b' t T : Nat} {v p q : Value} (h : One w b t v) (h' : w.heap[b']? = some (.cells #[p, q] T (0, 0))) : b ≠ b' := by
  rintro rfl
  unfold One at h
  rw [h] at h'
  injection h' with h'
  injection h' with h1 _
  have := congrArg Array.size h1
  simp at this
theorem own_ne_blk {w : World} {base n b' T : Nat} {v p q : Value} {xs : List Value} (h : w.ownsRow base 35 3 v n xs) (hb : w.heap[b']? = some (.cells #[p, q] T (0, 0))) (hT : T ≠ 35) : some b' ≠ v.ownBlock := by
  rcases h.2 with ⟨rfl, _⟩ | ⟨g', cap, cur, rfl, _, hg', _⟩
  · simp [Value.ownBlock]
  · intro e
    have : b' = g' := by simpa [Value.ownBlock] using e
    subst this
    rw [hg'] at hb
    injection hb with hb
    injection hb with _ h2
    exact hT h2.symm
end Go.Proofs.Ytpifobaejmfppaa
