/- What a reader reads: hex digits. -/
import Derived.Test.YtejdfpieblkapaaM21
import Derived.Laws.ResultCell
namespace Go.Proofs.Ytejdfpieblkapaa
open Go.RowKit Go.Shelf

theorem indexByte_range (l : List UInt8) (c : UInt8) : -1 ≤ Lib.indexByte l c ∧ Lib.indexByte l c < l.length := by
  induction l with
  | nil => simp [Lib.indexByte]
  | cons b l ih =>
    simp only [Lib.indexByte]
    split
    · simp
    · split
      · simp; omega
      · rename_i h; simp at h; simp; omega

def HX : ByteArray := ⟨#[48, 49, 50, 51, 52, 53, 54, 55, 56, 57, 97, 98, 99, 100, 101, 102]⟩
/-- The number of k hex digits. -/
def hexP (L : List UInt8) (i : Nat) : Nat → Option Nat
  | 0 => some 0
  | k + 1 => (hexP L i k).bind fun n => if Lib.indexByte HX.data.toList (nx L (i + k)).toUInt8 < 0 then none else some (n * 16 + (Lib.indexByte HX.data.toList (nx L (i + k)).toUInt8).toNat)
theorem hexP_lt (L : List UInt8) (i k n : Nat) (h : hexP L i k = some n) : n < 16 ^ k := by
  induction k generalizing n with
  | zero => simp [hexP] at h; omega
  | succ k ih =>
    simp only [hexP] at h
    obtain ⟨m, hm, hh⟩ := Option.bind_eq_some_iff.1 h
    have := ih m hm
    split at hh
    · cases hh
    · have hr := (indexByte_range HX.data.toList (nx L (i + k)).toUInt8).2
      have hlen : HX.data.toList.length = 16 := rfl
      rw [hlen] at hr
      injection hh with hh
      rw [Nat.pow_succ]
      omega
/-- What a reader answers. -/
def RdTo (P : Nat) (s : ByteArray) (ov : Value) (d : Int) (l : Bool) (r : Option (Nat × Nat)) (w : World) (e : Ending) (w' : World) : Prop :=
  Kb (fun j => j = P) w w' ∧ ((∃ b j, r = some (b, j) ∧ e = .returned (.tuple #[.int .u8 b, .bool true]) ∧ PsB w' P s j ov d l) ∨ (r = none ∧ e = .returned (.tuple #[.int .u8 0, .bool false]) ∧ ∃ j, j ≤ s.size ∧ PsB w' P s j ov d l))
def hexF (L : List UInt8) (i : Nat) : Option (Nat × Nat) := (hexP L i 2).map fun n => (n, i + 2)
theorem hexP_in {s : ByteArray} {i k n : Nat} (h : hexP s.data.toList i k = some n) (hi : i ≤ s.size) : i + k ≤ s.size := by
  induction k generalizing n with
  | zero => omega
  | succ k ih =>
    simp only [hexP] at h
    obtain ⟨m, hm, hh⟩ := Option.bind_eq_some_iff.1 h
    have := ih hm
    split at hh
    · cases hh
    · rename_i hx
      rcases Nat.lt_or_ge (i + k) s.size with h' | h'
      · omega
      · exfalso
        apply hx
        unfold nx
        rw [List.getElem?_eq_none (by rw [← Lib.size_eq]; exact h')]
        decide

theorem hexP_none {L : List UInt8} {i k m : Nat} (h : hexP L i k = none) (hm : k ≤ m) : hexP L i m = none := by
  induction m with
  | zero => obtain rfl : k = 0 := by omega
            exact h
  | succ m ih =>
    rcases Nat.lt_or_ge m k with h' | h'
    · obtain rfl : k = m + 1 := by omega
      exact h
    · simp only [hexP]; rw [ih h']; rfl

set_option maxRecDepth 100000 in
set_option maxHeartbeats 2000000 in
theorem hex_any (w : World) (P : Nat) (s : ByteArray) (i : Nat) (ov : Value) (d : Int) (l : Bool) (h : PsB w P s i ov d l) (hi : i ≤ s.size) (hs : s.size ≤ 1000000) :
    Calls Try.prog 73 #[ptr P] w (RdTo P s ov d l (hexF s.data.toList i) w) := by
  have HH := Lib.hid h
  clear h
  go_enter Try.func73, Try.ntmps73
  go_wp2_with fail
  go_loopw [4, 6] (fun a k wr => ∃ (j n : Nat), j ≤ 2 ∧ k = .int .i64 j ∧ a = .int .i64 n ∧ n < 65536 ∧ Hid (hexP s.data.toList i j = some n) ∧ Hid (PsB wr P s (i + j) ov d l) ∧ Hid (Kb (fun j => j = P) w wr)) (fun _ k _ => 2 - (intOf k).toNat)
  case atStart => exact ⟨0, 0, by omega, rfl, rfl, by omega, rfl, HH.out, Kb.refl _ _⟩
  case round =>
    obtain ⟨j, n, hj, rfl, rfl, hn, HX1, HP, HK⟩ := hrel
    have hij := hexP_in HX1.out hi
    by_cases hlt : j < 2
    · have hji : (j : Int) < 2 := by omega
      have HN := Lib.hid (next_any wr P s (i + j) ov d l HP.out hij hs)
      have hxs : hexP s.data.toList i (j + 1) = if Lib.indexByte HX.data.toList (nx s.data.toList (i + j)).toUInt8 < 0 then none else some (n * 16 + (Lib.indexByte HX.data.toList (nx s.data.toList (i + j)).toUInt8).toNat) := by
        simp only [hexP]; rw [HX1.out]; rfl
      have hrg := indexByte_range HX.data.toList (nx s.data.toList (i + j)).toUInt8
      have hl16 : HX.data.toList.length = 16 := rfl
      rw [hl16] at hrg
      obtain ⟨x, hx⟩ : ∃ x, x = nx s.data.toList (i + j) := ⟨_, rfl⟩
      rw [← hx] at HN hxs hrg
      obtain ⟨dg, hdg⟩ : ∃ dg, dg = Lib.indexByte HX.data.toList x.toUInt8 := ⟨_, rfl⟩
      have HIB := fun w' => indexByte_any HX x w'
      rw [← hdg] at HIB hxs hrg
      have HXS := Lib.hid hxs
      clear hxs hx hdg
      go_wp2_with fail
      refine HN.out.mono ?_
      rintro e w1 ⟨rfl, h1, h2⟩
      go_wp2_with fail
      refine (HIB w1).mono ?_
      rintro e w2 ⟨rfl, rfl⟩
      have HKb := Lib.hid (HK.out.trans (Kb.of_below (fun j => j = P) h2) (fun _ _ h => h))
      have c1 : w2.cell? ⟨P, 1, none⟩ = some (.int .i64 ((i + j : Nat) : Int)) := by unfold PsB at h1; rw [Lib.cell_of_heap h1]; rfl
      have f1 : w2.frozen? ⟨P, 1, none⟩ = false := Lib.frozen_of_heap h1 1
      have H1 := Lib.hid h1
      clear h1 h2 HIB
      by_cases hdg : dg < 0
      · have hno : hexF s.data.toList i = none := by
          unfold hexF
          rw [hexP_none (k := j + 1) (by rw [HXS.out, if_pos hdg]) (by omega)]; rfl
        have HNO := Lib.hid hno
        clear hno
        go_wp2_with fail
        refine bodyPost_ret (results_tmp2 rfl _ _ _) rfl ?_
        exact ⟨HKb.out, .inr ⟨HNO.out, rfl, i + j, hij, H1.out⟩⟩
      · have hnn : hexP s.data.toList i (j + 1) = some (n * 16 + dg.toNat) := by rw [HXS.out, if_neg hdg]
        have hij1 := hexP_in hnn hi
        obtain ⟨dn, hdn⟩ : ∃ dn : Nat, dg = dn := ⟨dg.toNat, by omega⟩
        subst hdn
        have hn2 := hexP_lt _ _ _ _ hnn
        have hpw : 16 ^ (j + 1) ≤ 256 := by rcases (show j = 0 ∨ j = 1 by omega) with rfl | rfl <;> decide
        simp only [Int.toNat_natCast] at hnn hn2
        have HNN := Lib.hid hnn
        have e1 : IntKind.i64.wrap ((n : Int) * 16) = ((n * 16 : Nat) : Int) := by rw [IntWalk.i64_in _ (by omega)]; omega
        have e2 : IntKind.i64.wrap (((n * 16 : Nat) : Int) + dn) = ((n * 16 + dn : Nat) : Int) := by rw [IntWalk.i64_in _ (by omega)]; omega
        have e3 : IntKind.i64.wrap (((i + j : Nat) : Int) + 1) = ((i + (j + 1) : Nat) : Int) := by rw [IntWalk.i64_in _ (by omega)]; omega
        generalize hm1 : ((n * 16 : Nat) : Int) = m1 at e1 e2
        generalize hm2 : ((n * 16 + dn : Nat) : Int) = m2 at e2
        generalize hm3 : ((i + (j + 1) : Nat) : Int) = m3 at e3
        generalize hm4 : ((i + j : Nat) : Int) = m4 at e3 c1
        have HM2 := Lib.hid hm2; have HM3 := Lib.hid hm3
        clear hm1 hm2 hm3 hm4 hnn HXS
        go_wp2
        go_roundw
        case rel => exact ⟨j + 1, n * 16 + dn, by omega, by go_num, by rw [HM2.out], by omega, HNN.out, by rw [← HM3.out]; exact H1.out.step _, HKb.out.trans (Kb.setCell w2 ⟨P, 1, none⟩ _) (fun _ _ h => h)⟩
        case measure => simp [intOf]; omega
    · obtain rfl : j = 2 := by omega
      have hn2 := hexP_lt _ _ _ _ HX1.out
      have hn3 : n < 256 := by simpa using hn2
      have hyes : hexF s.data.toList i = some (n, i + 2) := by unfold hexF; rw [HX1.out]; rfl
      have e1 : IntKind.u8.wrap (n : Int) = (n : Int) := by rw [IntKind.wrap_u8]; omega
      have HY := Lib.hid hyes
      clear hyes
      go_wp2_with fail
      refine bodyPost_ret (results_tmp2 rfl _ _ _) rfl ?_
      exact ⟨HK.out, .inl ⟨n, i + 2, HY.out, rfl, HP.out⟩⟩
end Go.Proofs.Ytejdfpieblkapaa

/- What a reader reads: letters. -/
namespace Go.Proofs.Ytejdfpieblkapaa
open Go.RowKit Go.Shelf

def inS (sp : ByteArray) (c : Nat) : Bool := decide (0 ≤ Lib.indexByte sp.data.toList c.toUInt8)
/-- What stands behind a backslash. -/
def escF (sp : ByteArray) (L : List UInt8) (i : Nat) : Option (Nat × Nat) :=
  if nx L i = 120 then hexF L (i + 1) else if nx L i = 110 then some (10, i + 1) else if nx L i = 116 then some (9, i + 1) else if nx L i = 115 then some (32, i + 1) else if inS sp (nx L i) = true then some (nx L i, i + 1) else none
/-- A letter. -/
def letF (sp : ByteArray) (L : List UInt8) (i : Nat) : Option (Nat × Nat) :=
  if nx L i = 92 then escF sp L (i + 1) else if nx L i ≤ 32 ∨ 126 < nx L i ∨ inS sp (nx L i) = true then none else some (nx L i, i + 1)

theorem RdTo.wider {P : Nat} {s : ByteArray} {ov : Value} {d : Int} {l : Bool} {r : Option (Nat × Nat)} {w w1 : World} {e : Ending} {w' : World} (h : RdTo P s ov d l r w1 e w') (hk : Kb (fun j => j = P) w w1) : RdTo P s ov d l r w e w' :=
  ⟨hk.trans h.1 (fun _ _ h => h), h.2⟩
theorem inS_in {sp s : ByteArray} {i : Nat} (h : inS sp (nx s.data.toList i) = true) (h0 : inS sp 0 = false) : i < s.size := by
  rcases Nat.lt_or_ge i s.size with h' | h'
  · exact h'
  · unfold nx at h
    rw [List.getElem?_eq_none (by rw [← Lib.size_eq]; exact h')] at h
    have h2 : inS sp 0 = true := h
    rw [h0] at h2; cases h2

set_option maxRecDepth 100000 in
set_option maxHeartbeats 2000000 in
theorem escaped_any (w : World) (P : Nat) (sp s : ByteArray) (i : Nat) (ov : Value) (d : Int) (l : Bool) (h : PsB w P s i ov d l) (hi : i ≤ s.size) (hs : s.size ≤ 1000000) (hsp : inS sp 0 = false) :
    Calls Try.prog 71 #[ptr P, .string sp] w (RdTo P s ov d l (escF sp s.data.toList i) w) := by
  have HN := Lib.hid (next_any w P s i ov d l h hi hs)
  have hcases : ∀ x, nx s.data.toList i = x → 0 < x → i < s.size := fun x hx h0 => nx_in hx h0
  have hins := fun h => inS_in (sp := sp) (s := s) (i := i) h hsp
  have hesc : escF sp s.data.toList i = if nx s.data.toList i = 120 then hexF s.data.toList (i + 1) else if nx s.data.toList i = 110 then some (10, i + 1) else if nx s.data.toList i = 116 then some (9, i + 1) else if nx s.data.toList i = 115 then some (32, i + 1) else if inS sp (nx s.data.toList i) = true then some (nx s.data.toList i, i + 1) else none := rfl
  rw [hesc]
  generalize nx s.data.toList i = x at HN hcases hins
  have HC := Lib.hid hcases
  have HIB := Lib.hid (fun w' => indexByte_any sp x w')
  have HI := Lib.hid hins
  clear h hcases hins hesc
  obtain ⟨m3, hm3⟩ : ∃ m3 : Int, m3 = ((i + 1 : Nat) : Int) := ⟨_, rfl⟩
  have e3 : IntKind.i64.wrap ((i : Int) + 1) = m3 := by rw [hm3, IntWalk.i64_in _ (by omega)]; omega
  have HM3 := Lib.hid hm3
  clear hm3
  by_cases h1 : x = 120
  · subst h1
    rw [if_pos rfl]
    have hlt := HC.out 120 rfl (by omega)
    go_enter Try.func71, Try.ntmps71
    go_wp2_with fail
    refine HN.out.mono ?_
    rintro e w1 ⟨rfl, h1, h2⟩
    have c1 : w1.cell? ⟨P, 1, none⟩ = some (.int .i64 i) := by unfold PsB at h1; rw [Lib.cell_of_heap h1]; rfl
    have f1 : w1.frozen? ⟨P, 1, none⟩ = false := Lib.frozen_of_heap h1 1
    have hx := hex_any (w1.setCell ⟨P, 1, none⟩ (.int .i64 m3)) P s (i + 1) ov d l (by rw [HM3.out]; exact h1.step (i + 1)) (by omega) hs
    have HX1 := Lib.hid hx
    have HK := Lib.hid ((Kb.of_below (fun j => j = P) h2).trans (Kb.setCell w1 ⟨P, 1, none⟩ (.int .i64 m3)) (fun _ _ h => h))
    clear h1 h2 hx
    go_wp2_with fail
    refine HX1.out.mono ?_
    rintro e w2 ⟨q1, q2⟩
    have HQ := Lib.hid q1
    clear q1
    rcases q2 with ⟨b, j, hr, rfl, hp⟩ | ⟨hr, rfl, j, hj, hp⟩
    · have HR := Lib.hid (And.intro hr hp)
      clear hr hp
      go_wp2_with fail
      refine bodyPost_ret (results_tmp2 rfl _ _ _) rfl ?_
      exact ⟨HK.out.trans HQ.out (fun _ _ h => h), .inl ⟨b, j, HR.out.1, rfl, HR.out.2⟩⟩
    · have HR := Lib.hid (And.intro hr hp)
      clear hr hp
      go_wp2_with fail
      refine bodyPost_ret (results_tmp2 rfl _ _ _) rfl ?_
      exact ⟨HK.out.trans HQ.out (fun _ _ h => h), .inr ⟨HR.out.1, rfl, j, hj, HR.out.2⟩⟩
  · rw [if_neg h1]
    have h1i : ((x : Nat) : Int) ≠ 120 := by omega
    by_cases h2 : x = 110
    · subst h2
      rw [if_pos rfl]
      have hlt := HC.out 110 rfl (by omega)
      clear h1i
      go_enter Try.func71, Try.ntmps71
      go_wp2_with fail
      refine HN.out.mono ?_
      rintro e w1 ⟨rfl, h1, h2⟩
      have c1 : w1.cell? ⟨P, 1, none⟩ = some (.int .i64 i) := by unfold PsB at h1; rw [Lib.cell_of_heap h1]; rfl
      have f1 : w1.frozen? ⟨P, 1, none⟩ = false := Lib.frozen_of_heap h1 1
      have HF := Lib.hid (And.intro h1 h2)
      clear h1 h2
      go_wp2_with fail
      refine bodyPost_ret (results_tmp2 rfl _ _ _) rfl ?_
      exact ⟨(Kb.of_below _ HF.out.2).trans (Kb.setCell w1 ⟨P, 1, none⟩ _) (fun _ _ h => h), .inl ⟨10, i + 1, rfl, rfl, by rw [HM3.out]; exact HF.out.1.step (i + 1)⟩⟩
    · rw [if_neg h2]
      have h2i : ((x : Nat) : Int) ≠ 110 := by omega
      by_cases h3 : x = 116
      · subst h3
        rw [if_pos rfl]
        have hlt := HC.out 116 rfl (by omega)
        clear h1i h2i
        go_enter Try.func71, Try.ntmps71
        go_wp2_with fail
        refine HN.out.mono ?_
        rintro e w1 ⟨rfl, h1, h2⟩
        have c1 : w1.cell? ⟨P, 1, none⟩ = some (.int .i64 i) := by unfold PsB at h1; rw [Lib.cell_of_heap h1]; rfl
        have f1 : w1.frozen? ⟨P, 1, none⟩ = false := Lib.frozen_of_heap h1 1
        have HF := Lib.hid (And.intro h1 h2)
        clear h1 h2
        go_wp2_with fail
        refine bodyPost_ret (results_tmp2 rfl _ _ _) rfl ?_
        exact ⟨(Kb.of_below _ HF.out.2).trans (Kb.setCell w1 ⟨P, 1, none⟩ _) (fun _ _ h => h), .inl ⟨9, i + 1, rfl, rfl, by rw [HM3.out]; exact HF.out.1.step (i + 1)⟩⟩
      · rw [if_neg h3]
        have h3i : ((x : Nat) : Int) ≠ 116 := by omega
        by_cases h4 : x = 115
        · subst h4
          rw [if_pos rfl]
          have hlt := HC.out 115 rfl (by omega)
          clear h1i h2i h3i
          go_enter Try.func71, Try.ntmps71
          go_wp2_with fail
          refine HN.out.mono ?_
          rintro e w1 ⟨rfl, h1, h2⟩
          have c1 : w1.cell? ⟨P, 1, none⟩ = some (.int .i64 i) := by unfold PsB at h1; rw [Lib.cell_of_heap h1]; rfl
          have f1 : w1.frozen? ⟨P, 1, none⟩ = false := Lib.frozen_of_heap h1 1
          have HF := Lib.hid (And.intro h1 h2)
          clear h1 h2
          go_wp2_with fail
          refine bodyPost_ret (results_tmp2 rfl _ _ _) rfl ?_
          exact ⟨(Kb.of_below _ HF.out.2).trans (Kb.setCell w1 ⟨P, 1, none⟩ _) (fun _ _ h => h), .inl ⟨32, i + 1, rfl, rfl, by rw [HM3.out]; exact HF.out.1.step (i + 1)⟩⟩
        · rw [if_neg h4]
          have h4i : ((x : Nat) : Int) ≠ 115 := by omega
          obtain ⟨dg, hdg⟩ : ∃ dg, dg = Lib.indexByte sp.data.toList x.toUInt8 := ⟨_, rfl⟩
          have hin : inS sp x = decide (0 ≤ dg) := by unfold inS; rw [hdg]
          have HIB2 := Lib.hid (show ∀ w', Calls Try.prog 41 #[.string sp, .int .u8 x] w' fun e w'_1 => e = .returned (.int .i64 dg) ∧ w'_1 = w' by rw [hdg]; exact HIB.out)
          rw [hin]
          have HIN := Lib.hid hin
          clear h1 h2 h3 h4 hdg HIB hin
          by_cases h5 : 0 ≤ dg
          · rw [if_pos (decide_eq_true h5)]
            have hlt := HI.out (by rw [HIN.out]; exact decide_eq_true h5)
            go_enter Try.func71, Try.ntmps71
            go_wp2_with fail
            refine HN.out.mono ?_
            rintro e w1 ⟨rfl, h1, h2⟩
            have c1 : w1.cell? ⟨P, 1, none⟩ = some (.int .i64 i) := by unfold PsB at h1; rw [Lib.cell_of_heap h1]; rfl
            have f1 : w1.frozen? ⟨P, 1, none⟩ = false := Lib.frozen_of_heap h1 1
            have HF := Lib.hid (And.intro h1 h2)
            clear h1 h2
            go_wp2_with fail
            refine (HIB2.out w1).mono ?_
            rintro e w2 ⟨rfl, rfl⟩
            go_wp2_with fail
            refine bodyPost_ret (results_tmp2 rfl _ _ _) rfl ?_
            exact ⟨(Kb.of_below _ HF.out.2).trans (Kb.setCell w2 ⟨P, 1, none⟩ _) (fun _ _ h => h), .inl ⟨x, i + 1, rfl, rfl, by rw [HM3.out]; exact HF.out.1.step (i + 1)⟩⟩
          · rw [if_neg (by rw [decide_eq_false h5]; simp)]
            go_enter Try.func71, Try.ntmps71
            go_wp2_with fail
            refine HN.out.mono ?_
            rintro e w1 ⟨rfl, h1, h2⟩
            have HF := Lib.hid (And.intro h1 h2)
            clear h1 h2
            go_wp2_with fail
            refine (HIB2.out w1).mono ?_
            rintro e w2 ⟨rfl, rfl⟩
            go_wp2_with fail
            refine bodyPost_ret (results_tmp2 rfl _ _ _) rfl ?_
            exact ⟨Kb.of_below _ HF.out.2, .inr ⟨rfl, rfl, i, hi, HF.out.1⟩⟩
end Go.Proofs.Ytejdfpieblkapaa

/- What letter reads. -/
namespace Go.Proofs.Ytejdfpieblkapaa
open Go.RowKit Go.Shelf

set_option maxRecDepth 100000 in
set_option maxHeartbeats 2000000 in
theorem letter_any (w : World) (P : Nat) (sp s : ByteArray) (i : Nat) (ov : Value) (d : Int) (l : Bool) (h : PsB w P s i ov d l) (hi : i ≤ s.size) (hs : s.size ≤ 1000000) (hsp : inS sp 0 = false) :
    Calls Try.prog 60 #[ptr P, .string sp] w (RdTo P s ov d l (letF sp s.data.toList i) w) := by
  by_cases h92 : nx s.data.toList i = 92
  · have HT := Lib.hid (take_yes w P 92 s i ov d l h hi hs h92 (by omega))
    have hlt := nx_in h92 (by omega)
    have hlet : letF sp s.data.toList i = escF sp s.data.toList (i + 1) := by unfold letF; rw [if_pos h92]
    rw [hlet]
    clear h h92 hlet
    go_enter Try.func60, Try.ntmps60
    go_wp2_with fail
    refine HT.out.mono ?_
    rintro e w1 ⟨rfl, h1, h2⟩
    have HE := Lib.hid (escaped_any w1 P sp s (i + 1) ov d l h1 (by omega) hs hsp)
    have HK := Lib.hid h2
    clear h1 h2
    go_wp2_with fail
    refine HE.out.mono ?_
    rintro e w2 ⟨q1, q2⟩
    have HQ := Lib.hid q1
    clear q1
    rcases q2 with ⟨b, j, hr, rfl, hp⟩ | ⟨hr, rfl, j, hj, hp⟩
    · have HR := Lib.hid (And.intro hr hp)
      clear hr hp
      go_wp2_with fail
      refine bodyPost_ret (results_tmp2 rfl _ _ _) rfl ?_
      exact ⟨HK.out.trans HQ.out (fun _ _ h => h), .inl ⟨b, j, HR.out.1, rfl, HR.out.2⟩⟩
    · have HR := Lib.hid (And.intro hr hp)
      clear hr hp
      go_wp2_with fail
      refine bodyPost_ret (results_tmp2 rfl _ _ _) rfl ?_
      exact ⟨HK.out.trans HQ.out (fun _ _ h => h), .inr ⟨HR.out.1, rfl, j, hj, HR.out.2⟩⟩
  · have HT := Lib.hid (take_no w P 92 s i ov d l h hi hs h92)
    have hlet : letF sp s.data.toList i = if nx s.data.toList i ≤ 32 ∨ 126 < nx s.data.toList i ∨ inS sp (nx s.data.toList i) = true then none else some (nx s.data.toList i, i + 1) := by unfold letF; rw [if_neg h92]
    rw [hlet]
    have HC := Lib.hid (fun (h : 0 < nx s.data.toList i) => nx_in (s := s) (i := i) rfl h)
    have HNX := Lib.hid (fun w1 (h1 : PsB w1 P s i ov d l) => next_any w1 P s i ov d l h1 hi hs)
    generalize nx s.data.toList i = x at HC HNX
    clear h h92 hlet
    obtain ⟨dg, hdg⟩ : ∃ dg, dg = Lib.indexByte sp.data.toList x.toUInt8 := ⟨_, rfl⟩
    have hin : inS sp x = decide (0 ≤ dg) := by unfold inS; rw [hdg]
    have HIB2 := Lib.hid (show ∀ w', Calls Try.prog 41 #[.string sp, .int .u8 x] w' fun e w'_1 => e = .returned (.int .i64 dg) ∧ w'_1 = w' by rw [hdg]; exact fun w' => indexByte_any sp x w')
    rw [hin]
    clear hdg hin
    obtain ⟨m3, hm3⟩ : ∃ m3 : Int, m3 = ((i + 1 : Nat) : Int) := ⟨_, rfl⟩
    have e3 : IntKind.i64.wrap ((i : Int) + 1) = m3 := by rw [hm3, IntWalk.i64_in _ (by omega)]; omega
    have HM3 := Lib.hid hm3
    clear hm3
    by_cases h1 : x ≤ 32
    · rw [if_pos (.inl h1)]
      have h1i : (x : Int) ≤ 32 := by omega
      go_enter Try.func60, Try.ntmps60
      go_wp2_with fail
      refine HT.out.mono ?_
      rintro e w1 ⟨rfl, h1, h2⟩
      have HN := Lib.hid (HNX.out w1 h1); have HB := Lib.hid h2
      clear h1 h2
      go_wp2_with fail
      refine HN.out.mono ?_
      rintro e w2 ⟨rfl, h1, h2⟩
      have HF := Lib.hid (And.intro h1 (below_tr HB.out h2 HB.out.size))
      clear h1 h2
      go_wp2_with fail
      refine bodyPost_ret (results_tmp2 rfl _ _ _) rfl ?_
      exact ⟨Kb.of_below _ HF.out.2, .inr ⟨rfl, rfl, i, hi, HF.out.1⟩⟩
    · have h1i : ¬ (x : Int) ≤ 32 := by omega
      by_cases h2 : 126 < x
      · rw [if_pos (.inr (.inl h2))]
        have h2i : (126 : Int) < x := by omega
        go_enter Try.func60, Try.ntmps60
        go_wp2_with fail
        refine HT.out.mono ?_
        rintro e w1 ⟨rfl, h1, h2⟩
        have HN := Lib.hid (HNX.out w1 h1); have HB := Lib.hid h2
        clear h1 h2
        go_wp2_with fail
        refine HN.out.mono ?_
        rintro e w2 ⟨rfl, h1, h2⟩
        have HF := Lib.hid (And.intro h1 (below_tr HB.out h2 HB.out.size))
        clear h1 h2
        go_wp2_with fail
        refine bodyPost_ret (results_tmp2 rfl _ _ _) rfl ?_
        exact ⟨Kb.of_below _ HF.out.2, .inr ⟨rfl, rfl, i, hi, HF.out.1⟩⟩
      · have h2i : ¬ (126 : Int) < x := by omega
        by_cases h3 : 0 ≤ dg
        · rw [if_pos (.inr (.inr (decide_eq_true h3)))]
          go_enter Try.func60, Try.ntmps60
          go_wp2_with fail
          refine HT.out.mono ?_
          rintro e w1 ⟨rfl, h1, h2⟩
          have HN := Lib.hid (HNX.out w1 h1); have HB := Lib.hid h2
          clear h1 h2
          go_wp2_with fail
          refine HN.out.mono ?_
          rintro e w2 ⟨rfl, h1, h2⟩
          have HF := Lib.hid (And.intro h1 (below_tr HB.out h2 HB.out.size))
          clear h1 h2
          go_wp2_with fail
          refine (HIB2.out w2).mono ?_
          rintro e w3 ⟨rfl, rfl⟩
          go_wp2_with fail
          refine bodyPost_ret (results_tmp2 rfl _ _ _) rfl ?_
          exact ⟨Kb.of_below _ HF.out.2, .inr ⟨rfl, rfl, i, hi, HF.out.1⟩⟩
        · rw [if_neg (show ¬ (x ≤ 32 ∨ 126 < x ∨ decide (0 ≤ dg) = true) from fun h => h.elim h1 (fun h => h.elim h2 (fun h => h3 (of_decide_eq_true h))))]
          have hlt := HC.out (by omega)
          go_enter Try.func60, Try.ntmps60
          go_wp2_with fail
          refine HT.out.mono ?_
          rintro e w1 ⟨rfl, h1, h2⟩
          have HN := Lib.hid (HNX.out w1 h1); have HB := Lib.hid h2
          clear h1 h2
          go_wp2_with fail
          refine HN.out.mono ?_
          rintro e w2 ⟨rfl, h1, h2⟩
          have c1 : w2.cell? ⟨P, 1, none⟩ = some (.int .i64 i) := by unfold PsB at h1; rw [Lib.cell_of_heap h1]; rfl
          have f1 : w2.frozen? ⟨P, 1, none⟩ = false := Lib.frozen_of_heap h1 1
          have HF := Lib.hid (And.intro h1 (below_tr HB.out h2 HB.out.size))
          clear h1 h2
          go_wp2_with fail
          refine (HIB2.out w2).mono ?_
          rintro e w3 ⟨rfl, rfl⟩
          go_wp2_with fail
          refine bodyPost_ret (results_tmp2 rfl _ _ _) rfl ?_
          exact ⟨(Kb.of_below _ HF.out.2).trans (Kb.setCell w3 ⟨P, 1, none⟩ _) (fun _ _ h => h), .inl ⟨x, i + 1, rfl, rfl, by rw [HM3.out]; exact HF.out.1.step (i + 1)⟩⟩
end Go.Proofs.Ytejdfpieblkapaa

/- What letters reads: a letter of a class, or a range. -/
namespace Go.Proofs.Ytejdfpieblkapaa
open Go.RowKit Go.Shelf

theorem results_ws {fn : Func} {p u : Tmp} (h : fn.results = #[.cell p 41, .tmp u]) (tmps : Array Value) (w : World) (g : Nat) (s : Ws) (fr : Nat × Nat) (hp : tmps.getD p undef = .pointer (some ⟨g, 0, none⟩)) (hg : w.heap[g]? = some (.cells s.cells 41 fr)) :
    (results fn tmps).run Try.prog w = .ok (.tuple #[wsV s, tmps.getD u undef]) w := by
  rw [results_cell_tmp h, hp]
  simp [asAddr, run_loadVar_row w g 41 41 s.cells fr _ hg Try.underlying41 rfl (by kernel_rfl), Result.andThen]
  rfl

theorem hexF_ok {s : ByteArray} {i b j : Nat} (h : hexF s.data.toList i = some (b, j)) (hi : i ≤ s.size) : b < 256 ∧ i < j ∧ j ≤ s.size := by
  unfold hexF at h
  obtain ⟨n, hn, hh⟩ := Option.map_eq_some_iff.1 h
  injection hh with h1 h2
  have := hexP_lt _ _ _ _ hn
  have := hexP_in hn hi
  simp at *
  omega
theorem escF_ok {sp s : ByteArray} {i b j : Nat} (h : escF sp s.data.toList i = some (b, j)) (_hi : i ≤ s.size) (hsp : inS sp 0 = false) : b < 256 ∧ i < j ∧ j ≤ s.size := by
  unfold escF at h
  have hl := nx_lt s.data.toList i
  split at h
  · rename_i hx
    have := nx_in hx (by omega)
    have := hexF_ok h (by omega)
    omega
  · split at h
    · rename_i hx; have := nx_in hx (by omega); injection h with h; injection h with h1 h2; omega
    · split at h
      · rename_i hx; have := nx_in hx (by omega); injection h with h; injection h with h1 h2; omega
      · split at h
        · rename_i hx; have := nx_in hx (by omega); injection h with h; injection h with h1 h2; omega
        · split at h
          · rename_i hx; have := inS_in hx hsp; injection h with h; injection h with h1 h2; omega
          · cases h
theorem letF_ok {sp s : ByteArray} {i b j : Nat} (h : letF sp s.data.toList i = some (b, j)) (_hi : i ≤ s.size) (hsp : inS sp 0 = false) : b < 256 ∧ i < j ∧ j ≤ s.size := by
  unfold letF at h
  have hl := nx_lt s.data.toList i
  split at h
  · rename_i hx
    have := nx_in hx (by omega)
    have := escF_ok h (by omega) hsp
    omega
  · split at h
    · cases h
    · rename_i hx
      have := nx_in (s := s) (i := i) rfl (by omega)
      injection h with h; injection h with h1 h2
      omega

def INS : ByteArray := ⟨#[93, 94, 45, 92]⟩
theorem ins0 : inS INS 0 = false := by decide
/-- A letter of a class, or a range. -/
def lettersF (L : List UInt8) (i : Nat) : Option (Ws × Nat) := match letF INS L i with
  | none => none
  | some (f, j) => if nx L j = 45 then (match letF INS L (j + 1) with
      | none => none
      | some (g, k) => if g < f then none else some (btw f (g + 1 - f), k)) else some (btw f 1, j)
/-- What letters and class answer. -/
def WsTo (P : Nat) (s : ByteArray) (ov : Value) (d : Int) (l : Bool) (r : Option (Ws × Nat)) (w : World) (e : Ending) (w' : World) : Prop :=
  Kb (fun j => j = P) w w' ∧ ((∃ b j, r = some (b, j) ∧ e = .returned (.tuple #[wsV b, .bool true]) ∧ PsB w' P s j ov d l) ∨ (r = none ∧ ∃ b, e = .returned (.tuple #[wsV b, .bool false]) ∧ ∃ j, j ≤ s.size ∧ PsB w' P s j ov d l))

/-- The world with an array's four words set. -/
theorem set4 {w : World} {g : Nat} {s0 s : Ws} (h : w.heap[g]? = some (.cells s0.cells 41 (0, 0))) : ((((w.setCell ⟨g, 0, none⟩ (.int .u64 s.a)).setCell ⟨g, 1, none⟩ (.int .u64 s.b)).setCell ⟨g, 2, none⟩ (.int .u64 s.c)).setCell ⟨g, 3, none⟩ (.int .u64 s.d)).heap[g]? = some (.cells s.cells 41 (0, 0)) := by
  rw [set_heap _ _ 3 _ _ _ _ (set_heap _ _ 2 _ _ _ _ (set_heap _ _ 1 _ _ _ _ (set_heap _ _ 0 _ _ _ _ h)))]
  rfl
theorem set4_kb (w : World) (g : Nat) (s : Ws) : Kb (fun j => j = g) w ((((w.setCell ⟨g, 0, none⟩ (.int .u64 s.a)).setCell ⟨g, 1, none⟩ (.int .u64 s.b)).setCell ⟨g, 2, none⟩ (.int .u64 s.c)).setCell ⟨g, 3, none⟩ (.int .u64 s.d)) :=
  (((Kb.setCell w ⟨g, 0, none⟩ _).trans (Kb.setCell _ ⟨g, 1, none⟩ _) (fun _ _ h => h)).trans (Kb.setCell _ ⟨g, 2, none⟩ _) (fun _ _ h => h)).trans (Kb.setCell _ ⟨g, 3, none⟩ _) (fun _ _ h => h)
theorem ws_cells {w : World} {g : Nat} {s : Ws} (h : w.heap[g]? = some (.cells s.cells 41 (0, 0))) : w.cell? ⟨g, 0, none⟩ = some (.int .u64 s.a) ∧ w.cell? ⟨g, 1, none⟩ = some (.int .u64 s.b) ∧ w.cell? ⟨g, 2, none⟩ = some (.int .u64 s.c) ∧ w.cell? ⟨g, 3, none⟩ = some (.int .u64 s.d) ∧ w.frozen? ⟨g, 0, none⟩ = false ∧ w.frozen? ⟨g, 1, none⟩ = false ∧ w.frozen? ⟨g, 2, none⟩ = false ∧ w.frozen? ⟨g, 3, none⟩ = false :=
  ⟨by rw [Lib.cell_of_heap h]; rfl, by rw [Lib.cell_of_heap h]; rfl, by rw [Lib.cell_of_heap h]; rfl, by rw [Lib.cell_of_heap h]; rfl, Lib.frozen_of_heap h 0, Lib.frozen_of_heap h 1, Lib.frozen_of_heap h 2, Lib.frozen_of_heap h 3⟩
theorem alloc_ws (w : World) : (w.alloc (.cells #[.int .u64 0, .int .u64 0, .int .u64 0, .int .u64 0] 41)).heap[w.heap.size]? = some (.cells (Ws.cells ⟨0, 0, 0, 0⟩) 41 (0, 0)) := heap_alloc_new w _

set_option maxRecDepth 100000 in
set_option maxHeartbeats 2000000 in
theorem letters_any (w : World) (P : Nat) (s : ByteArray) (i : Nat) (ov : Value) (d : Int) (l : Bool) (h : PsB w P s i ov d l) (hi : i ≤ s.size) (hs : s.size ≤ 1000000) :
    Calls Try.prog 70 #[ptr P] w (WsTo P s ov d l (lettersF s.data.toList i) w) := by
  have hPl := lt_of_heap h
  have hb : Below w.heap.size w (w.alloc (.cells #[.int .u64 0, .int .u64 0, .int .u64 0, .int .u64 0] 41)) := (Below.refl _ w).alloc (Nat.le_refl _) _
  have HL := Lib.hid (letter_any (w.alloc (.cells #[.int .u64 0, .int .u64 0, .int .u64 0, .int .u64 0] 41)) P INS s i ov d l (h.below hb) hi hs ins0)
  have HA := Lib.hid (alloc_ws w)
  have HB := Lib.hid hb
  clear h hb
  go_enter Try.func70, Try.ntmps70
  go_wp2_with fail
  refine HL.out.mono ?_
  rintro e w1 ⟨q1, q2⟩
  have hA1 : w1.heap[w.heap.size]? = some (.cells (Ws.cells ⟨0, 0, 0, 0⟩) 41 (0, 0)) := (q1.block _ (by simp) (by omega)).trans HA.out
  have HA1 := Lib.hid hA1
  have hkb1 : Kb (fun j => j = P) w w1 := (Kb.of_below _ HB.out).trans q1 (fun _ _ h => h)
  have HK1 := Lib.hid hkb1
  have hz1 : w.heap.size < w1.heap.size := lt_of_heap hA1
  clear q1 hA1 hkb1
  rcases q2 with ⟨f, j, hr, rfl, hp⟩ | ⟨hr, rfl, j, hj, hp⟩
  · obtain ⟨hf, hij, hj⟩ := letF_ok hr hi ins0
    by_cases h45 : nx s.data.toList j = 45
    · have HT := Lib.hid (take_yes w1 P 45 s j ov d l hp hj hs h45 (by omega))
      have hj1 := nx_in h45 (by omega)
      have hlf : lettersF s.data.toList i = match letF INS s.data.toList (j + 1) with
          | none => none
          | some (g, k) => if g < f then none else some (btw f (g + 1 - f), k) := by
        unfold lettersF; rw [hr]; simp only [if_pos h45]
      have HLF := Lib.hid hlf
      obtain ⟨jj, hjj⟩ : ∃ jj, jj = j + 1 := ⟨_, rfl⟩
      rw [← hjj] at HT HLF
      have hjs : jj ≤ s.size := by omega
      clear hlf hr hp h45 hjj
      go_wp2_with fail
      refine HT.out.mono ?_
      rintro e w2 ⟨rfl, h1, h2⟩
      have hA2 := (h2.block _ hz1 (by omega)).trans HA1.out
      have HA2 := Lib.hid hA2
      have hz2 : w.heap.size < w2.heap.size := lt_of_heap hA2
      have HK2 := Lib.hid (HK1.out.trans h2 (fun _ _ h => h))
      have c1 : w2.cell? ⟨P, 1, none⟩ = some (.int .i64 jj) := by unfold PsB at h1; rw [Lib.cell_of_heap h1]; rfl
      have HL2 := Lib.hid (letter_any w2 P INS s jj ov d l h1 hjs hs ins0)
      clear h1 h2 hA2
      go_wp2_with fail
      refine HL2.out.mono ?_
      rintro e w3 ⟨q1, q2⟩
      have hA3 := (q1.block _ hz2 (by omega)).trans HA2.out
      have HA3 := Lib.hid hA3
      have hz3 : w.heap.size < w3.heap.size := lt_of_heap hA3
      have HK3 := Lib.hid (HK2.out.trans q1 (fun _ _ h => h))
      clear q1 hA3
      rcases q2 with ⟨g, k, hr, rfl, hp⟩ | ⟨hr, rfl, k, hk, hp⟩
      · obtain ⟨hg, hjk, hk⟩ := letF_ok hr hjs ins0
        have hlf := HLF.out
        rw [hr] at hlf
        by_cases hgf : g < f
        · have HLF2 := Lib.hid (show lettersF s.data.toList i = none by rw [hlf]; exact if_pos hgf)
          have hgi : (g : Int) < f := by omega
          obtain ⟨z0, z1, z2, z3, f0, f1, f2, f3⟩ := ws_cells HA3.out
          have c3 : w3.cell? ⟨P, 1, none⟩ = some (.int .i64 k) := by unfold PsB at hp; rw [Lib.cell_of_heap hp]; rfl
          have f3' : w3.frozen? ⟨P, 1, none⟩ = false := Lib.frozen_of_heap hp 1
          have hsp := hp.step jj
          have hA4 : (w3.setCell ⟨P, 1, none⟩ (.int .i64 jj)).heap[w.heap.size]? = some (.cells (Ws.cells ⟨0, 0, 0, 0⟩) 41 (0, 0)) := (Below.heap_setCell _ _ _ _ (by show w.heap.size ≠ P; omega)).trans HA3.out
          obtain ⟨y0, y1, y2, y3, g0, g1, g2, g3⟩ := ws_cells hA4
          have HA4 := Lib.hid hA4; have HS4 := Lib.hid hsp
          have HK4 := Lib.hid (HK3.out.trans (Kb.setCell w3 ⟨P, 1, none⟩ (.int .i64 jj)) (fun _ _ h => h))
          clear hlf hr hp hsp hA4 z0 z1 z2 z3 f0 f1 f2 f3
          go_wp2_with fail
          refine bodyPost_ret (results_ws rfl _ _ w.heap.size ⟨0, 0, 0, 0⟩ (0, 0) rfl (set4 (s := ⟨0, 0, 0, 0⟩) HA4.out)) rfl ?_
          refine ⟨(HK4.out).trans (set4_kb _ w.heap.size ⟨0, 0, 0, 0⟩) (fun i hi h => by omega), .inr ⟨HLF2.out, ⟨0, 0, 0, 0⟩, rfl, jj, hjs, ((set4_kb _ w.heap.size ⟨0, 0, 0, 0⟩).block P (lt_of_heap HS4.out) (by omega)).trans HS4.out⟩⟩
        · have HLF2 := Lib.hid (show lettersF s.data.toList i = some (btw f (g + 1 - f), k) by rw [hlf]; exact if_neg hgf)
          have hgi : ¬ (g : Int) < f := by omega
          have HW := Lib.hid (between_any f g w3 hf hg)
          have HH3 := Lib.hid hp
          clear hlf hr hp
          generalize btw f (g + 1 - f) = ws at HLF2 HW
          go_wp2_with fail
          refine HW.out.mono ?_
          rintro e w4 ⟨rfl, h3⟩
          have hA4 := (h3.block _ hz3).trans HA3.out
          obtain ⟨z0, z1, z2, z3, f0, f1, f2, f3⟩ := ws_cells hA4
          have HA4 := Lib.hid hA4
          have HP4 := Lib.hid (HH3.out.below h3)
          have HK4 := Lib.hid (HK3.out.trans (Kb.of_below (fun j => j = P) h3) (fun _ _ h => h))
          clear hA4 h3
          go_wp2_with fail
          refine bodyPost_ret (results_ws rfl _ _ w.heap.size ws (0, 0) rfl (set4 HA4.out)) rfl ?_
          refine ⟨(HK4.out).trans (set4_kb w4 w.heap.size ws) (fun i hi h => by omega), .inl ⟨ws, k, HLF2.out, rfl, ((set4_kb w4 w.heap.size ws).block P (lt_of_heap HP4.out) (by omega)).trans HP4.out⟩⟩
      · have hlf := HLF.out
        rw [hr] at hlf
        have HLF2 := Lib.hid (show lettersF s.data.toList i = none from hlf)
        have HW := Lib.hid (between_any f 0 w3 hf (by omega))
        have HH3 := Lib.hid hp
        clear hlf hr hp
        generalize btw f (0 + 1 - f) = ws at HW
        go_wp2_with fail
        refine HW.out.mono ?_
        rintro e w4 ⟨rfl, h3⟩
        have hA4 := (h3.block _ hz3).trans HA3.out
        obtain ⟨z0, z1, z2, z3, f0, f1, f2, f3⟩ := ws_cells hA4
        have HA4 := Lib.hid hA4
        have HP4 := Lib.hid (HH3.out.below h3)
        have HK4 := Lib.hid (HK3.out.trans (Kb.of_below (fun j => j = P) h3) (fun _ _ h => h))
        clear hA4 h3
        go_wp2_with fail
        refine bodyPost_ret (results_ws rfl _ _ w.heap.size ws (0, 0) rfl (set4 HA4.out)) rfl ?_
        refine ⟨(HK4.out).trans (set4_kb w4 w.heap.size ws) (fun i hi h => by omega), .inr ⟨HLF2.out, ws, rfl, k, hk, ((set4_kb w4 w.heap.size ws).block P (lt_of_heap HP4.out) (by omega)).trans HP4.out⟩⟩
    · have hlf : lettersF s.data.toList i = some (btw f (f + 1 - f), j) := by
        unfold lettersF; rw [hr]; simp only [if_neg h45]; rw [Nat.add_sub_cancel_left]
      have HT := Lib.hid (take_no w1 P 45 s j ov d l hp hj hs h45)
      have HLF := Lib.hid hlf
      clear hlf hr hp h45
      go_wp2_with fail
      refine HT.out.mono ?_
      rintro e w2 ⟨rfl, h1, h2⟩
      have HW := Lib.hid (between_any f f w2 hf hf)
      have HH2 := Lib.hid h1; have HB2 := Lib.hid h2
      clear h1 h2
      generalize btw f (f + 1 - f) = ws at HLF HW
      go_wp2_with fail
      refine HW.out.mono ?_
      rintro e w3 ⟨rfl, h3⟩
      have hA3 := (h3.block _ (by have := HB2.out.size; omega)).trans ((HB2.out.block _ hz1).trans HA1.out)
      obtain ⟨z0, z1, z2, z3, f0, f1, f2, f3⟩ := ws_cells hA3
      have HA3 := Lib.hid hA3
      have HP3 := Lib.hid (HH2.out.below h3)
      have HK3 := Lib.hid ((HK1.out.trans (Kb.of_below (fun j => j = P) HB2.out) (fun _ _ h => h)).trans (Kb.of_below (fun j => j = P) h3) (fun _ _ h => h))
      clear hA3 h3
      go_wp2_with fail
      refine bodyPost_ret (results_ws rfl _ _ w.heap.size ws (0, 0) rfl (set4 HA3.out)) rfl ?_
      refine ⟨(HK3.out).trans ((set4_kb w3 w.heap.size ws).wider (fun i h => h)) (fun i hi h => by omega), .inl ⟨ws, j, HLF.out, rfl, ((set4_kb w3 w.heap.size ws).block P (lt_of_heap HP3.out) (by omega)).trans HP3.out⟩⟩
  · have HLF2 := Lib.hid (show lettersF s.data.toList i = none by unfold lettersF; rw [hr])
    have HW := Lib.hid (between_any 0 0 w1 (by omega) (by omega))
    have HH1 := Lib.hid hp
    clear hr hp
    generalize btw 0 (0 + 1 - 0) = ws at HW
    go_wp2_with fail
    refine HW.out.mono ?_
    rintro e w4 ⟨rfl, h3⟩
    have hA4 := (h3.block _ hz1).trans HA1.out
    obtain ⟨z0, z1, z2, z3, f0, f1, f2, f3⟩ := ws_cells hA4
    have HA4 := Lib.hid hA4
    have HP4 := Lib.hid (HH1.out.below h3)
    have HK4 := Lib.hid (HK1.out.trans (Kb.of_below (fun j => j = P) h3) (fun _ _ h => h))
    clear hA4 h3
    go_wp2_with fail
    refine bodyPost_ret (results_ws rfl _ _ w.heap.size ws (0, 0) rfl (set4 HA4.out)) rfl ?_
    refine ⟨(HK4.out).trans (set4_kb w4 w.heap.size ws) (fun i hi h => by omega), .inr ⟨HLF2.out, ws, rfl, j, hj, ((set4_kb w4 w.heap.size ws).block P (lt_of_heap HP4.out) (by omega)).trans HP4.out⟩⟩
end Go.Proofs.Ytejdfpieblkapaa

/- What others answers. -/
namespace Go.Proofs.Ytejdfpieblkapaa
open Go.RowKit Go.Shelf

def inv64 (x : Nat) : Nat := 18446744073709551615 - x
/-- The first k words turned. -/
def Ws.inv (s : Ws) : Nat → Ws
  | 0 => s
  | 1 => ⟨inv64 s.a, s.b, s.c, s.d⟩
  | 2 => ⟨inv64 s.a, inv64 s.b, s.c, s.d⟩
  | 3 => ⟨inv64 s.a, inv64 s.b, inv64 s.c, s.d⟩
  | _ => ⟨inv64 s.a, inv64 s.b, inv64 s.c, inv64 s.d⟩

theorem xor64 (x : Nat) (hx : x < 2 ^ 64) : bits BinOp.xor IntKind.u64 (if IntKind.u64.signed = true then -1 else IntKind.u64.max) (x : Int) = ((inv64 x : Nat) : Int) := by
  have h0 : (if IntKind.u64.signed = true then -1 else IntKind.u64.max) = (18446744073709551615 : Int) := by decide
  rw [h0]
  have hv : BitVec.ofInt 64 (x : Int) = BitVec.ofNat 64 x := by rw [BitVec.ofInt_natCast]
  have ha : BitVec.ofInt 64 (18446744073709551615 : Int) = BitVec.allOnes 64 := by decide
  show IntKind.u64.wrap ((BitVec.ofInt 64 (18446744073709551615 : Int) ^^^ BitVec.ofInt 64 (x : Int)).toNat : Int) = _
  rw [hv, ha, BitVec.allOnes_xor, BitVec.toNat_not, BitVec.toNat_ofNat, Nat.mod_eq_of_lt hx, IntKind.wrap_u64]
  unfold inv64
  omega
theorem inv_ok {s : Ws} : (s.inv 4).Ok := ⟨by show inv64 s.a < 2 ^ 64; unfold inv64; omega, by show inv64 s.b < 2 ^ 64; unfold inv64; omega, by show inv64 s.c < 2 ^ 64; unfold inv64; omega, by show inv64 s.d < 2 ^ 64; unfold inv64; omega⟩

set_option maxRecDepth 100000 in
set_option maxHeartbeats 2000000 in
theorem others_any (s : Ws) (w : World) (hok : s.Ok) : Calls Try.prog 58 #[wsV s] w fun e w' => e = .returned (wsV (s.inv 4)) ∧ Below w.heap.size w w' := by
  have hia := xor64 s.a hok.a
  have hib := xor64 s.b hok.b
  have hic := xor64 s.c hok.c
  have hid := xor64 s.d hok.d
  have HIA := Lib.hid hia; have HIB := Lib.hid hib; have HIC := Lib.hid hic; have HID := Lib.hid hid
  clear hia hib hic hid
  go_enter Try.func58, Try.ntmps58
  go_wp2_with fail
  go_loopw [4] (fun i wr => ∃ k : Nat, k ≤ 4 ∧ i = .int .i64 k ∧ Hid (Below w.heap.size w wr) ∧ Hid (wr.heap[w.heap.size]? = some (.cells (s.inv k).cells 41 (0, 0))) ∧ Hid (wr.heap[w.heap.size + 1]? = some (.cells (Ws.cells ⟨0, 0, 0, 0⟩) 41 (0, 0)))) (fun i _ => 4 - (intOf i).toNat)
  case atStart =>
    refine ⟨0, by omega, rfl, ((Below.refl _ w).alloc (Nat.le_refl _) _).alloc (by simp) _, ?_, ?_⟩
    · exact (Below.heap_alloc _ _ _ (by simp)).trans (heap_alloc_new w _)
    · exact heap_alloc2_new w _ _
  case round =>
    obtain ⟨k, hk, rfl, HB, HA, HC⟩ := hrel
    have hset : ∀ (j : Nat) (v : Value), Below w.heap.size w (wr.setCell ⟨w.heap.size, j, none⟩ v) ∧ (wr.setCell ⟨w.heap.size, j, none⟩ v).heap[w.heap.size + 1]? = some (.cells (Ws.cells ⟨0, 0, 0, 0⟩) 41 (0, 0)) := fun j v => ⟨HB.out.trans ((Kb.setCell wr ⟨w.heap.size, j, none⟩ v).below HB.out.size (fun i hi => by rw [hi]; exact Nat.le_refl _)), (Below.heap_setCell _ _ _ _ (by show w.heap.size + 1 ≠ w.heap.size; omega)).trans HC.out⟩
    have HS := Lib.hid hset
    clear hset
    rcases (show k = 0 ∨ k = 1 ∨ k = 2 ∨ k = 3 ∨ k = 4 by omega) with rfl | rfl | rfl | rfl | rfl
    · obtain ⟨z0, z1, z2, z3, f0, f1, f2, f3⟩ := ws_cells HA.out
      have z' : wr.cell? ⟨w.heap.size, 0, none⟩ = some (.int .u64 s.a) := z0
      clear z0 z1 z2 z3
      go_wp2
      rw [HIA.out]
      refine ⟨⟨1, by omega, by go_num, (HS.out 0 _).1, ?_, (HS.out 0 _).2⟩, by decide⟩
      show (wr.setCell ⟨w.heap.size, 0, none⟩ _).heap[w.heap.size]? = _
      rw [set_heap wr _ 0 _ _ _ _ HA.out]
      rfl
    · obtain ⟨z0, z1, z2, z3, f0, f1, f2, f3⟩ := ws_cells HA.out
      have z' : wr.cell? ⟨w.heap.size, 1, none⟩ = some (.int .u64 s.b) := z1
      clear z0 z1 z2 z3
      go_wp2
      rw [HIB.out]
      refine ⟨⟨2, by omega, by go_num, (HS.out 1 _).1, ?_, (HS.out 1 _).2⟩, by decide⟩
      show (wr.setCell ⟨w.heap.size, 1, none⟩ _).heap[w.heap.size]? = _
      rw [set_heap wr _ 1 _ _ _ _ HA.out]
      rfl
    · obtain ⟨z0, z1, z2, z3, f0, f1, f2, f3⟩ := ws_cells HA.out
      have z' : wr.cell? ⟨w.heap.size, 2, none⟩ = some (.int .u64 s.c) := z2
      clear z0 z1 z2 z3
      go_wp2
      rw [HIC.out]
      refine ⟨⟨3, by omega, by go_num, (HS.out 2 _).1, ?_, (HS.out 2 _).2⟩, by decide⟩
      show (wr.setCell ⟨w.heap.size, 2, none⟩ _).heap[w.heap.size]? = _
      rw [set_heap wr _ 2 _ _ _ _ HA.out]
      rfl
    · obtain ⟨z0, z1, z2, z3, f0, f1, f2, f3⟩ := ws_cells HA.out
      have z' : wr.cell? ⟨w.heap.size, 3, none⟩ = some (.int .u64 s.d) := z3
      clear z0 z1 z2 z3
      go_wp2
      rw [HID.out]
      refine ⟨⟨4, by omega, by go_num, (HS.out 3 _).1, ?_, (HS.out 3 _).2⟩, by decide⟩
      show (wr.setCell ⟨w.heap.size, 3, none⟩ _).heap[w.heap.size]? = _
      rw [set_heap wr _ 3 _ _ _ _ HA.out]
      rfl
    · obtain ⟨z0, z1, z2, z3, f0, f1, f2, f3⟩ := ws_cells HA.out
      obtain ⟨y0, y1, y2, y3, g0, g1, g2, g3⟩ := ws_cells HC.out
      clear f0 f1 f2 f3
      generalize ht : s.inv 4 = t at HA z0 z1 z2 z3
      have HT := Lib.hid ht
      clear ht
      go_wp2_with fail
      refine bodyPost_ret (results_cell_row rfl _ _ (w.heap.size + 1) 41 t.cells (0, 0) _ rfl (set4 (s := t) HC.out) Try.underlying41 rfl (by kernel_rfl)) rfl ?_
      exact ⟨by rw [HT.out]; rfl, HB.out.trans ((set4_kb wr (w.heap.size + 1) t).below HB.out.size (fun i hi => by rw [hi]; omega))⟩
end Go.Proofs.Ytejdfpieblkapaa

/- What class reads: the mathematics, and the comparison of sets. -/
namespace Go.Proofs.Ytejdfpieblkapaa
open Go.RowKit Go.Shelf

def Ws.un (s t : Ws) : Ws := ⟨s.a ||| t.a, s.b ||| t.b, s.c ||| t.c, s.d ||| t.d⟩
theorem Ws.Ok.un {s t : Ws} (hs : s.Ok) (ht : t.Ok) : (s.un t).Ok := ⟨Nat.or_lt_two_pow hs.a ht.a, Nat.or_lt_two_pow hs.b ht.b, Nat.or_lt_two_pow hs.c ht.c, Nat.or_lt_two_pow hs.d ht.d⟩
def ws0 : Ws := ⟨0, 0, 0, 0⟩
/-- Letters up to the bracket. -/
def classP (L : List UInt8) : Nat → Ws → Nat → Option (Ws × Nat)
  | 0, _, _ => none
  | n + 1, s, i => if s ≠ ws0 ∧ nx L i = 93 then some (s, i + 1) else (lettersF L i).bind fun x => classP L n (s.un x.1) x.2
/-- A class, its end among it. -/
def classF (L : List UInt8) (i : Nat) : Option (Ws × Nat) :=
  if nx L i = 94 then (classP L (L.length + 1) ws0 (i + 1)).map (fun x => (x.1.inv 4, x.2)) else classP L (L.length + 1) ws0 i
theorem lettersF_ok {s : ByteArray} {i j : Nat} {t : Ws} (h : lettersF s.data.toList i = some (t, j)) (hi : i ≤ s.size) : i < j ∧ j ≤ s.size ∧ t.Ok := by
  unfold lettersF at h
  split at h
  · cases h
  · rename_i f k hf
    have h1 := letF_ok hf hi ins0
    split at h
    · rename_i h45
      have h2 := nx_in h45 (by omega)
      split at h
      · cases h
      · rename_i g m hg
        have h3 := letF_ok hg (by omega) ins0
        split at h
        · cases h
        · injection h with h; injection h with e1 e2
          subst e1
          exact ⟨by omega, by omega, btw_ok _ _⟩
    · injection h with h; injection h with e1 e2
      subst e1
      exact ⟨by omega, by omega, btw_ok _ _⟩

theorem eq_in (x : Nat) (d : Nat) (w : World) : (Op.equalIn (d + 1) 40 (.int .u64 (x : Int)) (.int .u64 0)).run Try.prog w = .ok (decide (x = 0)) w := by
  rw [run_equalIn_int w d 40 .u64 .u64 x 0 Try.underlying40]
  congr 1
  rw [Bool.eq_iff_iff]
  simp
theorem part40 (xs : Array Value) (i : Nat) (v : Value) (h : xs[i]? = some v) (w : World) : (part 40 xs i).run Try.prog w = .ok v w := by
  simp [part, Try.isAgg40, h]
theorem eql_ws (s : Ws) (w : World) : (binOp .eql 41 (.agg #[.int .u64 s.a, .int .u64 s.b, .int .u64 s.c, .int .u64 s.d]) (.agg #[.int .u64 0, .int .u64 0, .int .u64 0, .int .u64 0])).run Try.prog w = .ok (.bool (decide (s = ws0))) w := by
  rw [run_eql_struct]
  have h : ∀ d, (Op.equalIn (d + 2) 41 (.agg #[.int .u64 s.a, .int .u64 s.b, .int .u64 s.c, .int .u64 s.d]) (.agg #[.int .u64 0, .int .u64 0, .int .u64 0, .int .u64 0])).run Try.prog w = .ok (decide (s = ws0)) w := fun d => by
    have e0 := eq_in s.a d w
    have e1 := eq_in s.b d w
    have e2 := eq_in s.c d w
    have e3 := eq_in s.d d w
    have hd : decide (s = ws0) = (decide (s.a = 0) && decide (s.b = 0) && decide (s.c = 0) && decide (s.d = 0)) := by
      rw [Bool.eq_iff_iff]
      simp only [decide_eq_true_eq, Bool.and_eq_true]
      constructor
      · rintro rfl; exact ⟨⟨⟨rfl, rfl⟩, rfl⟩, rfl⟩
      · rintro ⟨⟨⟨h0, h1⟩, h2⟩, h3⟩
        cases s
        simp only at h0 h1 h2 h3
        subst h0 h1 h2 h3
        rfl
    rw [Op.equalIn, hd]
    generalize decide (s.a = 0) = b0 at e0
    generalize decide (s.b = 0) = b1 at e1
    generalize decide (s.c = 0) = b2 at e2
    generalize decide (s.d = 0) = b3 at e3
    cases b0 <;> cases b1 <;> cases b2 <;> cases b3 <;> simp [run_underlying Try.underlying41, Try.sizeOf40, List.range', part40, Result.andThen, e0, e1, e2, e3]
  rw [h 9998]
  rfl
end Go.Proofs.Ytejdfpieblkapaa
