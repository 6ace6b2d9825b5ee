/- What an automaton of expressions is, and where texts lead. -/
import Derived.Test.YtejdfpieblkapaaGreatDoorG36b
import Derived.Test.YtejdfpieblkapaaGreatDoorH5
import Derived.Test.YtejdfpieblkapaaGreatDoorH6
import Derived.Test.YtejdfpieblkapaaGreatDoorH13
namespace Go.Proofs.YtejdfpieblkapaaGreatDoor
open Go.RowKit Go.Shelf

def AhD (rs : List Rx) (D : Df) (n q : Nat) : Prop := (n = 0 ∧ FsS rs q) ∨ (n ≠ 0 ∧ ∃ p, bt (D.ps n) p = true ∧ folS rs 0 p q = true)
structure DfS (rs : List Rx) (D : Df) : Prop where
 n0 : 0 < D.N
 n1 : D.N ≤ 2000
 ok : ∀ n k q, n < D.N → D.nx n k = some q → q < D.N
 nw : D.nw = nwd (cntS rs)
 p0 : ∀ q, bt (D.ps 0) q = false
 pw : ∀ n < D.N, ∀ x ∈ D.ps n, x < 2 ^ 64
 pN : ∀ n < D.N, ∀ q, bt (D.ps n) q = true → q < cntS rs
 ne : ∀ n, 0 < n → n < D.N → ∃ q, bt (D.ps n) q = true
 inj : ∀ i j, 0 < i → i < D.N → 0 < j → j < D.N → D.ps i = D.ps j → i = j
 step : ∀ n < D.N, ∀ b : UInt8, (D.nx n (D.cl b.toNat) = none ∧ ∀ q, ¬ (AhD rs D n q ∧ hsS rs q b = true)) ∨ ∃ k, D.nx n (D.cl b.toNat) = some k ∧ 0 < k ∧ k < D.N ∧ ∀ q, bt (D.ps k) q = true ↔ AhD rs D n q ∧ hsS rs q b = true
 ac : ∃ us, (∀ q, bt us q = true ↔ ∃ (i : Nat) (l : List Nat), (lstS rs 0)[i]? = some l ∧ q ∈ l) ∧ ∀ n < D.N, LrA rs (D.ps n) us (D.ac n)
 ord : ∃ tp : Nat → Nat → Nat, tp 0 0 = 0 ∧ (∀ n < D.N, tp n 256 = tp (n + 1) 0) ∧ tp D.N 0 + 1 = D.N ∧ ∀ n < D.N, ∀ b < 256, (D.nx n (D.cl b) = none → tp n (b + 1) = tp n b) ∧ ∀ k, D.nx n (D.cl b) = some k → k ≤ tp n b + 1 ∧ tp n (b + 1) = max (tp n b) k
 cls : ∀ a b, a < 256 → b < 256 → (D.cl a = D.cl b ↔ ∀ n < D.N, D.nx n (D.cl a) = D.nx n (D.cl b))
 clo : ∃ tc : Nat → Nat, tc 0 = 0 ∧ tc 256 = D.K ∧ ∀ b < 256, D.cl b ≤ tc b ∧ tc (b + 1) = max (tc b) (D.cl b + 1)
theorem DfS.Ok {rs : List Rx} {D : Df} (h : DfS rs D) : D.Ok := ⟨h.n0, h.ok⟩
theorem DfS.run {rs : List Rx} {D : Df} (h : DfS rs D) (u : List UInt8) : (D.run u = none ∧ u ≠ [] ∧ ∀ q, ¬ RcS rs u q) ∨ ∃ n, D.run u = some n ∧ n < D.N ∧ (∀ q, AhD rs D n q ↔ AhS rs u q) ∧ (u = [] → n = 0) ∧ (u ≠ [] → 0 < n ∧ ∀ q, bt (D.ps n) q = true ↔ RcS rs u q) := by
 rcases List.eq_nil_or_concat u with rfl | ⟨v, c, rfl⟩
 ·refine .inr ⟨0, rfl, h.n0, fun q => ?_, fun _ => rfl, fun e => absurd rfl e⟩
  rw [AhS.nil]
  simp [AhD]
 ·rw [List.concat_eq_append, Df.run_snoc]
  rcases h.run v with ⟨h1, h2, h3⟩ | ⟨n, h1, h2, h3, _, _⟩
  ·refine .inl ⟨by rw [h1]; rfl, by simp, fun q hq => ?_⟩
   rw [RcS.step rs v h2] at hq
   obtain ⟨⟨p, hp, _⟩, _⟩ := hq
   exact h3 p hp
  ·rw [h1]
   have e : D.to (some n) c = D.nx n (D.cl c.toNat) := rfl
   rcases h.step n h2 c with ⟨h4, h5⟩ | ⟨k, h4, h5, h6, h7⟩
   ·refine .inl ⟨by rw [e, h4], by simp, fun q hq => ?_⟩
    rw [RcS.of_ah, ← h3 q] at hq
    exact h5 q hq
   ·have hr : ∀ q, bt (D.ps k) q = true ↔ RcS rs (v ++ [c]) q := fun q => by rw [RcS.of_ah, ← h3 q]; exact h7 q
    refine .inr ⟨k, by rw [e, h4], h6, fun q => ?_, fun e => by simp at e, fun _ => ⟨h5, hr⟩⟩
    rw [AhS.some rs _ (by simp)]
    unfold AhD
    constructor
    ·rintro (⟨h0, _⟩ | ⟨_, p, hp, hf⟩)
     ·omega
     ·exact ⟨p, (hr p).1 hp, hf⟩
    ·rintro ⟨p, hp, hf⟩
     exact .inr ⟨by omega, p, (hr p).2 hp, hf⟩
termination_by u.length
decreasing_by subst_vars; simp
theorem lstS_of {rs : List Rx} {i q : Nat} {l : List Nat} (h : (lstS rs 0)[i]? = some l) (hq : q ∈ l) : ∃ r, rs[i]? = some r ∧ q ∈ r.lst (cntS (rs.take i)) ∧ cntS (rs.take i) ≤ q ∧ q < cntS (rs.take i) + r.cnt := by
 have hi := (lstS_get h).1
 have h1 := lstS_at (n := 0) (List.getElem?_eq_getElem hi)
 rw [h] at h1
 injection h1 with h1
 rw [h1, Nat.zero_add] at hq
 exact ⟨_, List.getElem?_eq_getElem hi, hq, (rs[i].lst_up _).2 q hq⟩
theorem DfS.acc {rs : List Rx} {D : Df} (h : DfS rs D) {u : List UInt8} (hu : u ≠ []) {n : Nat} (hn : D.run u = some n) : (D.ac n = none ∧ ∀ (i : Nat) (r : Rx), rs[i]? = some r → ¬ r.L u) ∨ ∃ (R : Nat) (r : Rx), D.ac n = some R ∧ rs[R]? = some r ∧ r.L u ∧ ∀ i < R, ∀ r' : Rx, rs[i]? = some r' → ¬ r'.L u := by
 rcases h.run u with ⟨h1, _⟩ | ⟨m, h1, h2, _, _, h5⟩
 ·rw [h1] at hn; cases hn
 ·rw [h1] at hn
  injection hn with hn
  subst hn
  obtain ⟨us, hus, hac⟩ := h.ac
  have hr := (h5 hu).2
  have key : ∀ (i : Nat) (r : Rx), rs[i]? = some r → r.L u → ∃ q, bt (D.ps m) q = true ∧ bt us q = true ∧ cntS (rs.take i) ≤ q ∧ q < cntS (rs.take i) + r.cnt := fun i r hi hl => by
   obtain ⟨q, hq, hq2⟩ := (run_iff hi u hu).2 hl
   have hb := (r.lst_up _).2 q hq
   exact ⟨q, (hr q).2 hq2, (hus q).2 ⟨i, _, lstS_at (n := 0) hi, by rw [Nat.zero_add]; exact hq⟩, hb⟩
  rcases hac m h2 with ⟨h6, h7⟩ | ⟨q, R, h6, h7, h8, h9, h10⟩
  ·refine .inl ⟨h6, fun i r hi hl => ?_⟩
   obtain ⟨q, hq, hq2, _⟩ := key i r hi hl
   rw [h7 q hq] at hq2
   cases hq2
  ·obtain ⟨i, l, h11, h12⟩ := (hus q).1 h8
   obtain ⟨r, h13, h14, h15, h16⟩ := lstS_of h11 h12
   have e := rlS_at (k := 0) h13 h15 h16
   rw [h10, Nat.zero_add] at e
   injection e with e
   subst e
   refine .inr ⟨R, r, h6, h13, (run_iff h13 u hu).1 ⟨q, h14, (hr q).1 h7⟩, fun i hi r' hr' hl => ?_⟩
   obtain ⟨q', h17, h18, h19, h20⟩ := key i r' hr' hl
   have h21 : cntS (rs.take i) + r'.cnt ≤ cntS (rs.take R) := by
    rw [← cntS_take hr']
    have e : rs.take (i + 1) = (rs.take R).take (i + 1) := by rw [List.take_take, Nat.min_eq_left (by omega)]
    rw [e]
    exact cntS_take_le _ _
   have := h9 q' (by omega) h17
   rw [h18] at this
   cases this
end Go.Proofs.YtejdfpieblkapaaGreatDoor

/- The automaton that a maker of expressions makes is theirs. -/
namespace Go.Proofs.YtejdfpieblkapaaGreatDoor
open Go.RowKit Go.Shelf

theorem seen_nodup (col : Nat → List UInt8) : ∀ k, (seen col k).Nodup
 | 0 => List.nodup_nil
 | k + 1 => by
  by_cases h : col k ∈ seen col k
  ·rw [seen_yes h]; exact seen_nodup col k
  ·rw [seen_no h]
   exact List.nodup_append.2 ⟨seen_nodup col k, by simp, fun x hx y hy e => h (by rw [List.mem_singleton.1 hy] at e; rw [← e]; exact hx)⟩
theorem grp_surj (col : Nat → List UInt8) {c : Nat} (hc : c < (seen col 256).length) : ∃ b, b < 256 ∧ grp col b = c := by
 obtain ⟨b, hb, e⟩ := (seen_mem col _ 256).1 (List.getElem_mem hc)
 refine ⟨b, hb, ?_⟩
 unfold grp
 rw [e]
 have h1 : (seen col 256).idxOf (seen col 256)[c] < (seen col 256).length := List.idxOf_lt_length_iff.2 (List.getElem_mem hc)
 have h2 := List.getElem_idxOf h1
 exact (List.getElem_inj (seen_nodup col 256)).1 h2
attribute [local irreducible] seen
def fB (cl : Nat → Nat) (m c : Nat) : Option Nat := (List.range m).find? fun b => cl b == c
theorem fB_some {cl : Nat → Nat} {m c b : Nat} (h : fB cl m c = some b) : b < m ∧ cl b = c := by
 have h1 := List.mem_of_find?_eq_some h
 have h2 := List.find?_some h
 simp at h1 h2
 exact ⟨h1, h2⟩
theorem fB_none {cl : Nat → Nat} {m c b : Nat} (h : fB cl m c = none) (hb : b < m) : cl b ≠ c := by
 have := List.find?_eq_none.1 h b (by simpa using hb)
 simpa using this
theorem fB_succ (cl : Nat → Nat) (m c : Nat) : fB cl (m + 1) c = (fB cl m c).or (if cl m = c then some m else none) := by
 unfold fB
 rw [List.range_succ, List.find?_append]
 congr 1
 by_cases h : cl m = c <;> simp [h]
def hasW (rs : List Rx) (b : Nat) : List Nat := wds (cntS rs) fun p => hsS rs p (UInt8.ofNat b)
def colH (rs : List Rx) (b : Nat) : List UInt8 := txt (hasW rs b)
def knd (rs : List Rx) (b : Nat) : Nat := grp (colH rs) b
def mkM (rs : List Rx) : Mk where
 N := cntS rs
 nw := nwd (cntS rs)
 kn := (seen (colH rs) 256).length
 fi := wds (cntS rs) fun q => (fstS rs 0).any fun l => decide (q ∈ l)
 fo := fun p => wds (cntS rs) fun q => folS rs 0 p q
 hs := fun k => hasW rs ((fB (knd rs) 256 k).getD 0)
theorem hasW_knd (rs : List Rx) {a b : Nat} (ha : a < 256) (hb : b < 256) (h : knd rs a = knd rs b) : hasW rs a = hasW rs b :=
 txt_inj _ _ (wds_lt _ _) (wds_lt _ _) ((grp_eq (colH rs) ha hb).1 h)
theorem hs_knd (rs : List Rx) {b : Nat} (hb : b < 256) : (mkM rs).hs (knd rs b) = hasW rs b := by
 show hasW rs ((fB (knd rs) 256 (knd rs b)).getD 0) = _
 cases h : fB (knd rs) 256 (knd rs b) with
 | none => exact absurd rfl (fB_none h hb)
 | some a =>
  obtain ⟨h1, h2⟩ := fB_some h
  exact hasW_knd rs h1 hb h2
theorem knd_lt (rs : List Rx) {b : Nat} (hb : b < 256) : knd rs b < (mkM rs).kn := by
 have h := grp_lt (colH rs) hb
 unfold knd mkM
 exact h
def rowN (M : Mk) (n i k : Nat) : Option Nat := ((mst M n).2.getD i []).getD k none
def colD (rs : List Rx) (n b : Nat) : List UInt8 := colT (fun i => rowN (mkM rs) n i (knd rs b)) n
def dfM (rs : List Rx) (n : Nat) (ac : Nat → Option Nat) : Df where
 N := n
 K := (seen (colD rs n) 256).length
 nw := nwd (cntS rs)
 cl := grp (colD rs n)
 nx := fun i c => rowN (mkM rs) n i (knd rs ((fB (grp (colD rs n)) 256 c).getD 0))
 ac := ac
 ps := fun i => if i = 0 then List.replicate (nwd (cntS rs)) 0 else (mst (mkM rs) n).1.getD (i - 1) []
theorem rowN_met {M : Mk} {n i k : Nat} (h : Met M n) (hi : i < n) (hk : k < M.kn) : (mt2 (M.ah (mst M n).1 i) (M.hs k)).all (· == 0) = true ∧ rowN M n i k = none ∨ (mt2 (M.ah (mst M n).1 i) (M.hs k)).all (· == 0) = false ∧ ∃ j, rowN M n i k = some (j + 1) ∧ (mst M n).1[j]? = some (mt2 (M.ah (mst M n).1 i) (M.hs k)) := by
 obtain ⟨row, o, h1, h2, h3⟩ := h.row hi hk
 have e : rowN M n i k = o := by
  unfold rowN
  simp only [List.getD_eq_getElem?_getD, h1, Option.getD_some, h2]
 rw [e]; exact h3
theorem rowN_lt {M : Mk} {n i k q : Nat} (h : Met M n) (hi : i < n) (hk : k < M.kn) (hq : rowN M n i k = some q) : 0 < q ∧ q < n := by
 rcases rowN_met h hi hk with ⟨_, h2⟩ | ⟨_, j, h2, h3⟩
 ·rw [h2] at hq; cases hq
 ·rw [h2] at hq
  injection hq with hq
  have := (List.getElem?_eq_some_iff.1 h3).1
  have := h.all
  omega
theorem colT_congr {f g : Nat → Option Nat} : ∀ {m : Nat}, (∀ i < m, f i = g i) → colT f m = colT g m
 | 0, _ => rfl
 | m + 1, h => by rw [colT_succ, colT_succ, colT_congr (fun i hi => h i (by omega)), h m (by omega)]
theorem col_same {rs : List Rx} {n a b : Nat} (h : Met (mkM rs) n) (hn : n ≤ 60000) (ha : a < 256) (hb : b < 256) (he : colD rs n a = colD rs n b) : ∀ i < n, rowN (mkM rs) n i (knd rs a) = rowN (mkM rs) n i (knd rs b) :=
 colT_inj _ _ n (fun i hi q hq => by have := (rowN_lt h hi (knd_lt rs ha) hq).2; omega) (fun i hi q hq => by have := (rowN_lt h hi (knd_lt rs hb) hq).2; omega) he
theorem nx_cl {rs : List Rx} {n : Nat} {ac : Nat → Option Nat} (h : Met (mkM rs) n) (hn : n ≤ 60000) {i b : Nat} (hi : i < n) (hb : b < 256) : (dfM rs n ac).nx i ((dfM rs n ac).cl b) = rowN (mkM rs) n i (knd rs b) := by
 show rowN (mkM rs) n i (knd rs ((fB (grp (colD rs n)) 256 (grp (colD rs n) b)).getD 0)) = _
 cases e : fB (grp (colD rs n)) 256 (grp (colD rs n) b) with
 | none => exact absurd rfl (fB_none e hb)
 | some a =>
  obtain ⟨h1, h2⟩ := fB_some e
  exact col_same h hn h1 hb ((grp_eq _ h1 hb).1 h2) i hi
theorem bt_fi (rs : List Rx) (q : Nat) : bt (mkM rs).fi q = true ↔ FsS rs q := by
 show bt (wds _ _) q = true ↔ _
 rw [bt_wds]
 simp only [Bool.and_eq_true, decide_eq_true_eq, List.any_eq_true]
 constructor
 ·rintro ⟨_, l, hl, hq⟩
  obtain ⟨i, hi⟩ := List.getElem?_of_mem hl
  exact ⟨i, l, hi, hq⟩
 ·intro h
  refine ⟨h.lt, ?_⟩
  obtain ⟨i, l, hi, hq⟩ := h
  exact ⟨l, List.mem_of_getElem? hi, hq⟩
theorem ah_len (rs : List Rx) (F : List (List Nat)) (i : Nat) : ((mkM rs).ah F i).length = nwd (cntS rs) := by
 unfold Mk.ah
 split <;> exact wds_len _ _
theorem ah_lt (rs : List Rx) (F : List (List Nat)) (i : Nat) : ∀ x ∈ (mkM rs).ah F i, x < 2 ^ 64 := by
 unfold Mk.ah
 split <;> exact wds_lt _ _
theorem ah_N (rs : List Rx) (F : List (List Nat)) (i q : Nat) (h : bt ((mkM rs).ah F i) q = true) : q < cntS rs := by
 unfold Mk.ah at h
 split at h
 ·exact ((bt_fi rs q).1 h).lt
 ·rw [bt_wds] at h
  simp at h
  exact h.1
theorem mt2_lt {a b : List Nat} (h : ∀ x ∈ a, x < 2 ^ 64) : ∀ x ∈ mt2 a b, x < 2 ^ 64 := by
 intro x hx
 unfold mt2 at hx
 obtain ⟨i, hi, rfl⟩ := List.mem_iff_getElem.1 hx
 rw [List.getElem_zipWith]
 exact Nat.lt_of_le_of_lt Nat.and_le_left (h _ (List.getElem_mem _))
structure StOk (rs : List Rx) (x : List Nat) : Prop where
 len : x.length = nwd (cntS rs)
 lt : ∀ y ∈ x, y < 2 ^ 64
 N : ∀ q, bt x q = true → q < cntS rs
 ne : x.all (· == 0) = false
theorem hs_len (rs : List Rx) (k : Nat) : ((mkM rs).hs k).length = nwd (cntS rs) := wds_len _ _
theorem st_ok (rs : List Rx) (n : Nat) : ∀ x ∈ (mst (mkM rs) n).1, StOk rs x := by
 refine mst_all (mkM rs) (StOk rs) n (fun i _ k _ hz => ?_)
 have hl : ((mkM rs).ah (mst (mkM rs) i).1 i).length = ((mkM rs).hs k).length := by rw [ah_len, hs_len]
 exact ⟨by rw [mt2_len _ _ hl, ah_len], mt2_lt (ah_lt rs _ i), fun q hq => by
  rw [bt_mt2 _ _ hl, Bool.and_eq_true] at hq
  exact ah_N rs _ i q hq.1, hz⟩
theorem ps_succ (rs : List Rx) (n : Nat) (ac : Nat → Option Nat) {j : Nat} {x : List Nat} (h : (mst (mkM rs) n).1[j]? = some x) : (dfM rs n ac).ps (j + 1) = x := by
 show (if j + 1 = 0 then List.replicate (nwd (cntS rs)) 0 else (mst (mkM rs) n).1.getD (j + 1 - 1) []) = _
 rw [if_neg (by omega), Nat.add_sub_cancel, List.getD_eq_getElem?_getD, h]; rfl
theorem ps_get (rs : List Rx) {n : Nat} (ac : Nat → Option Nat) (h : Met (mkM rs) n) {i : Nat} (h0 : 0 < i) (hi : i < n) : ∃ x, (mst (mkM rs) n).1[i - 1]? = some x ∧ (dfM rs n ac).ps i = x ∧ StOk rs x := by
 have hl : i - 1 < (mst (mkM rs) n).1.length := by have := h.all; omega
 refine ⟨_, List.getElem?_eq_getElem hl, ?_, st_ok rs n _ (List.getElem_mem hl)⟩
 have := ps_succ rs n ac (List.getElem?_eq_getElem hl)
 rwa [Nat.sub_add_cancel h0] at this
theorem bt_ah {rs : List Rx} {n : Nat} (ac : Nat → Option Nat) (h : Met (mkM rs) n) {i : Nat} (hi : i < n) (q : Nat) : bt ((mkM rs).ah (mst (mkM rs) n).1 i) q = true ↔ AhD rs (dfM rs n ac) i q := by
 by_cases h0 : i = 0
 ·subst h0
  have e : (mkM rs).ah (mst (mkM rs) n).1 0 = (mkM rs).fi := if_pos rfl
  rw [e, bt_fi]
  simp [AhD]
 ·obtain ⟨x, hx, hp, hok⟩ := ps_get rs ac h (by omega) hi
  have e : (mkM rs).ah (mst (mkM rs) n).1 i = wds (cntS rs) fun q => (List.range (cntS rs)).any fun p => bt x p && bt ((mkM rs).fo p) q := by
   unfold Mk.ah
   rw [if_neg h0, List.getD_eq_getElem?_getD, hx]; rfl
  have hfo : ∀ p q, bt ((mkM rs).fo p) q = (decide (q < cntS rs) && folS rs 0 p q) := fun p q => bt_wds _ _ q
  rw [e, bt_wds]
  simp only [Bool.and_eq_true, decide_eq_true_eq, List.any_eq_true, List.mem_range, hfo]
  unfold AhD
  rw [hp]
  constructor
  ·rintro ⟨_, p, _, h2, _, h3⟩
   exact .inr ⟨h0, p, h2, h3⟩
  ·rintro (⟨h1, _⟩ | ⟨_, p, h2, h3⟩)
   ·exact absurd h1 h0
   ·have hp := hok.N p h2
    have hq := folS_lt hp h3
    exact ⟨hq, p, hp, h2, hq, h3⟩
theorem bt_step {rs : List Rx} {n : Nat} (ac : Nat → Option Nat) (h : Met (mkM rs) n) {i : Nat} (hi : i < n) (b : UInt8) (q : Nat) : bt (mt2 ((mkM rs).ah (mst (mkM rs) n).1 i) ((mkM rs).hs (knd rs b.toNat))) q = true ↔ AhD rs (dfM rs n ac) i q ∧ hsS rs q b = true := by
 rw [bt_mt2 _ _ (by rw [ah_len, hs_len]), hs_knd rs b.toNat_lt, Bool.and_eq_true, bt_ah ac h hi]
 have e : bt (hasW rs b.toNat) q = (decide (q < cntS rs) && hsS rs q b) := by
  unfold hasW
  rw [bt_wds, UInt8.ofNat_toNat]
 rw [e, Bool.and_eq_true, decide_eq_true_eq]
 constructor
 ·rintro ⟨h1, _, h2⟩; exact ⟨h1, h2⟩
 ·rintro ⟨h1, h2⟩
  exact ⟨h1, ah_N rs _ i q ((bt_ah ac h hi q).2 h1), h2⟩
theorem num_ord (s : List (List Nat)) (a : List Nat) : ((num s a).1 = none → (num s a).2 = s) ∧ ∀ q, (num s a).1 = some q → q ≤ s.length + 1 ∧ (num s a).2.length = max s.length q := by
 cases h : a.all (· == 0) with
 | true => rw [num_none h]; exact ⟨fun _ => rfl, fun q hq => (by cases hq)⟩
 | false =>
  by_cases h2 : a ∈ s
  ·rw [num_old h h2]
   have := List.idxOf_lt_length_iff.2 h2
   refine ⟨fun hq => (by cases hq), fun q hq => ?_⟩
   injection hq with hq
   show _ ∧ s.length = _
   omega
  ·rw [num_new h h2]
   refine ⟨fun hq => (by cases hq), fun q hq => ?_⟩
   injection hq with hq
   show _ ∧ (s ++ [a]).length = _
   rw [List.length_append, List.length_singleton]
   omega
def tpM (M : Mk) (col : Nat → List UInt8) (i b : Nat) : Nat := (rowK M (M.ah (mst M i).1 i) (seen col b).length (mst M i).1).2.length
theorem dfM_ok (rs : List Rx) (n : Nat) (ac : Nat → Option Nat) (us : List Nat) (h : Met (mkM rs) n) (hn : n ≤ 2000)
  (hus : ∀ q, bt us q = true ↔ ∃ (i : Nat) (l : List Nat), (lstS rs 0)[i]? = some l ∧ q ∈ l) (hac : ∀ i < n, LrA rs ((dfM rs n ac).ps i) us (ac i)) : DfS rs (dfM rs n ac) where
 n0 := by show 0 < n; have := h.all; omega
 n1 := hn
 ok := fun i c q hi hq => by
  have hb : (fB (grp (colD rs n)) 256 c).getD 0 < 256 := by
   cases e : fB (grp (colD rs n)) 256 c with
   | none => decide
   | some b => exact (fB_some e).1
  exact (rowN_lt h hi (knd_lt rs hb) hq).2
 nw := rfl
 p0 := fun q => by
  show bt (List.replicate (nwd (cntS rs)) 0) q = false
  rw [bt_none]
 pw := fun i hi => by
  by_cases h0 : i = 0
  ·subst h0
   intro x hx
   change x ∈ List.replicate (nwd (cntS rs)) 0 at hx
   rw [List.eq_of_mem_replicate hx]; decide
  ·obtain ⟨x, _, hp, hok⟩ := ps_get rs ac h (by omega) hi
   rw [hp]; exact hok.lt
 pN := fun i hi q hq => by
  by_cases h0 : i = 0
  ·subst h0
   change bt (List.replicate (nwd (cntS rs)) 0) q = true at hq
   rw [bt_none] at hq
   cases hq
  ·obtain ⟨x, _, hp, hok⟩ := ps_get rs ac h (by omega) hi
   rw [hp] at hq; exact hok.N q hq
 ne := fun i h0 hi => by
  obtain ⟨x, _, hp, hok⟩ := ps_get rs ac h h0 hi
  rw [hp]
  refine Classical.byContradiction fun hc => ?_
  have := (bt_all0 hok.lt).2 (fun q => by
   cases e : bt x q with
   | false => rfl
   | true => exact absurd ⟨q, e⟩ hc)
  rw [hok.ne] at this
  cases this
 inj := fun i j h0 hi h1 hj he => by
  obtain ⟨x, hx, hp, _⟩ := ps_get rs ac h h0 hi
  obtain ⟨y, hy, hq, _⟩ := ps_get rs ac h h1 hj
  rw [hp, hq] at he
  subst he
  obtain ⟨a1, a2⟩ := List.getElem?_eq_some_iff.1 hx
  obtain ⟨b1, b2⟩ := List.getElem?_eq_some_iff.1 hy
  have := (List.getElem_inj (mst_nodup (mkM rs) n)).1 (a2.trans b2.symm)
  omega
 step := fun i hi b => by
  rw [nx_cl h (by omega) hi b.toNat_lt]
  have hw : ∀ x ∈ mt2 ((mkM rs).ah (mst (mkM rs) n).1 i) ((mkM rs).hs (knd rs b.toNat)), x < 2 ^ 64 := mt2_lt (ah_lt rs _ i)
  rcases rowN_met h hi (knd_lt rs b.toNat_lt) with ⟨h1, h2⟩ | ⟨h1, j, h2, h3⟩
  ·refine .inl ⟨h2, fun q hq => ?_⟩
   have := (bt_all0 hw).1 h1 q
   rw [(bt_step ac h hi b q).2 hq] at this
   cases this
  ·have hjl := (List.getElem?_eq_some_iff.1 h3).1
   refine .inr ⟨j + 1, h2, by omega, by show j + 1 < n; have := h.all; omega, fun q => ?_⟩
   rw [ps_succ rs n ac h3]
   exact bt_step ac h hi b q
 ac := ⟨us, hus, hac⟩
 ord := by
  have z0 : ∀ i, tpM (mkM rs) (colH rs) i 0 = (mst (mkM rs) i).1.length := fun i => by unfold tpM; simp [seen, rowK]
  refine ⟨tpM (mkM rs) (colH rs), by rw [z0]; rfl, fun i _ => by rw [z0]; rfl, by rw [z0]; exact h.all, fun i hi b hb => ?_⟩
  rw [nx_cl h (by omega) hi hb]
  have hrow : rowN (mkM rs) n i (knd rs b) = (num (rowK (mkM rs) ((mkM rs).ah (mst (mkM rs) i).1 i) (knd rs b) (mst (mkM rs) i).1).2 (mt2 ((mkM rs).ah (mst (mkM rs) i).1 i) ((mkM rs).hs (knd rs b)))).1 := by
   unfold rowN
   have hi' : i < n := hi
   simp only [List.getD_eq_getElem?_getD, mst_row (mkM rs) hi', Option.getD_some, rowK_get (mkM rs) _ _ (knd_lt rs hb)]
  rw [hrow]
  have htp : ∀ b, tpM (mkM rs) (colH rs) i b = (rowK (mkM rs) ((mkM rs).ah (mst (mkM rs) i).1 i) (seen (colH rs) b).length (mst (mkM rs) i).1).2.length := fun _ => rfl
  rw [htp, htp]
  generalize (mkM rs).ah (mst (mkM rs) i).1 i = ah
  have ho := num_ord (rowK (mkM rs) ah (knd rs b) (mst (mkM rs) i).1).2 (mt2 ah ((mkM rs).hs (knd rs b)))
  have e1 : (num (rowK (mkM rs) ah (knd rs b) (mst (mkM rs) i).1).2 (mt2 ah ((mkM rs).hs (knd rs b)))).2 = (rowK (mkM rs) ah (knd rs b + 1) (mst (mkM rs) i).1).2 := rfl
  rw [e1] at ho
  by_cases hm : colH rs b ∈ seen (colH rs) b
  ·rw [seen_yes hm]
   have h1 : (seen (colH rs) b).idxOf (colH rs b) = knd rs b := grp_yes hb hm
   have h2 := List.idxOf_lt_length_iff.2 hm
   rw [h1] at h2
   have h3 := pre_len (rowK_mono (mkM rs) ah (mst (mkM rs) i).1 (j := knd rs b + 1) h2)
   refine ⟨fun _ => rfl, fun q hq => ?_⟩
   have := ho.2 q hq
   omega
  ·have h1 : knd rs b = (seen (colH rs) b).length := grp_no hb hm
   rw [seen_no hm, List.length_append, List.length_singleton, ← h1]
   refine ⟨fun hq => by rw [ho.1 hq], fun q hq => ho.2 q hq⟩
 cls := fun a b ha hb => by
  constructor
  ·intro e i _
   rw [e]
  ·intro he
   refine (grp_eq _ ha hb).2 (colT_congr fun i hi => ?_)
   have := he i hi
   rw [nx_cl h (by omega) hi ha, nx_cl h (by omega) hi hb] at this
   exact this
 clo := ⟨fun b => (seen (colD rs n) b).length, by show (seen (colD rs n) 0).length = 0; simp [seen], rfl, fun b hb => by
  show grp (colD rs n) b ≤ (seen (colD rs n) b).length ∧ (seen (colD rs n) (b + 1)).length = max (seen (colD rs n) b).length (grp (colD rs n) b + 1)
  by_cases hm : colD rs n b ∈ seen (colD rs n) b
  ·rw [seen_yes hm]
   have h1 := grp_yes hb hm
   have h2 := List.idxOf_lt_length_iff.2 hm
   omega
  ·have h1 := grp_no hb hm
   rw [seen_no hm]
   rw [List.length_append, List.length_singleton]
   omega⟩
end Go.Proofs.YtejdfpieblkapaaGreatDoor
