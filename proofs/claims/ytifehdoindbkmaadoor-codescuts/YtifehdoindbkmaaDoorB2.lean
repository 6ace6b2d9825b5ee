/- What codes.Encode answers; the example. -/
import Derived.Test.YtifehdoindbkmaaDoorB1
namespace Go.Proofs.YtifehdoindbkmaaDoor
open Go.RowKit

/-- Code points' bytes, one behind the other. -/
def flat (l : List Int) : List UInt8 := (l.map fun z => enc z.toNat).flatten
theorem flat_nil : flat [] = [] := rfl
theorem flat_snoc (l : List Int) (z : Int) : flat (l ++ [z]) = flat l ++ enc z.toNat := by simp [flat]
theorem flat_cons (l : List Int) (z : Int) : flat (z :: l) = enc z.toNat ++ flat l := by simp [flat]
theorem flat_append (l m : List Int) : flat (l ++ m) = flat l ++ flat m := by simp [flat]
theorem flat_len : ∀ l : List Int, (flat l).length ≤ 4 * l.length
  | [] => by simp [flat]
  | z :: r => by
    rw [flat_cons, List.length_append, List.length_cons]
    have := flat_len r
    have := enc_pos z.toNat
    omega
theorem flat_ge : ∀ l : List Int, l.length ≤ (flat l).length
  | [] => by simp [flat]
  | z :: r => by
    rw [flat_cons, List.length_append, List.length_cons]
    have := flat_ge r
    have := enc_pos z.toNat
    omega

/-- The slice that begins at A holds these numbers, in blocks below B. -/
def IntsAt (w : World) (B : Nat) (A : Option Addr) (l : List Int) : Prop :=
  ∀ i z, l[i]? = some z → ∃ b off, A = some ⟨b, off, none⟩ ∧ b < B ∧ w.cell? ⟨b, off + i, none⟩ = some (.int .i64 z)
theorem IntsAt.below {w w' : World} {B C : Nat} {A : Option Addr} {l : List Int} (h : IntsAt w B A l) (hb : Below C w w') (hC : B ≤ C) : IntsAt w' B A l := by
  intro i z hz
  obtain ⟨b, off, h1, h2, h4⟩ := h i z hz
  exact ⟨b, off, h1, h2, (hb.cell (p := ⟨b, off + i, none⟩) (by show b < C; omega)).trans h4⟩
theorem IntsAt.more {w : World} {B C : Nat} {A : Option Addr} {l : List Int} (h : IntsAt w B A l) (hC : B ≤ C) : IntsAt w C A l := by
  intro i z hz
  obtain ⟨b, off, h1, h2, h4⟩ := h i z hz
  exact ⟨b, off, h1, by omega, h4⟩

/-- What Encode answers. -/
def encV (l : List Int) : Value := if l.all okN = true then .tuple #[.string ⟨(flat l).toArray⟩, .bool true] else .tuple #[.string ⟨#[]⟩, .bool false]

theorem isb_new (w : World) : Lib.IsBuilderF 71 5 w.heap.size w.heap.size (Lib.byteCells []) (w.alloc (.cells #[.pointer none, .slice none 0 0] 71)) := by
  refine .inl ⟨Nat.le_refl _, .slice none 0 0, ?_, World.ownsRowF_nil _ _ _ _, by simp [Value.ownBlock]⟩
  show (w.heap.push _)[w.heap.size]? = _
  simp

set_option maxRecDepth 100000 in
set_option maxHeartbeats 2000000 in
theorem encode_any (A : Option Addr) (len cap : Nat) (l : List Int) (w : World) (hlen : l.length = len) (_hl : len ≤ cap) (_hcap : cap ≤ 9223372036854775807) (hsm : len ≤ 1000000) (hA : IntsAt w w.heap.size A l) (hT : LenT w) :
    Calls Tryd.prog 19 #[.slice A len cap] w fun e w' => e = .returned (encV l) ∧ Below w.heap.size w w' := by
  have HL := Lib.hid hlen; clear hlen
  have HI0 := Lib.hid (isb_new w)
  have hb0 : Below w.heap.size w (w.alloc (.cells #[.pointer none, .slice none 0 0] 71)) := (Below.refl _ _).alloc (Nat.le_refl _) _
  have HB0 := Lib.hid hb0; clear hb0
  go_enter Tryd.func19, Tryd.ntmps19
  go_wp2_with fail
  go_loopw [9] (fun i wr => ∃ j : Nat, j ≤ len ∧ i = .int .i64 j ∧ Hid ((l.take j).all okN = true) ∧ Hid (Lib.IsBuilderF 71 5 w.heap.size w.heap.size (Lib.byteCells (flat (l.take j))) wr) ∧ Below w.heap.size w wr) (fun i _ => len - (intOf i).toNat)
  case atStart => exact ⟨0, by omega, rfl, rfl, HI0.out, HB0.out⟩
  case round =>
    obtain ⟨j, hj, rfl, HO, HI, hb⟩ := hrel
    by_cases hlt : j < len
    · obtain ⟨z, hz⟩ : ∃ z, l[j]? = some z := ⟨_, List.getElem?_eq_getElem (by rw [HL.out]; exact hlt)⟩
      obtain ⟨ab, ao, rfl, hab, hcell⟩ := (hA.below hb (Nat.le_refl _)) j z hz
      have HZ := Lib.hid hz
      clear hz
      have hTr : LenT wr := hT.below hb hT.1
      have hsz := hb.size
      go_wp2_with fail
      refine (put_any w.heap.size w.heap.size (flat (l.take j)) z wr hTr hT.1 hb.size HI.out (by have := flat_len (l.take j); rw [List.length_take] at this; omega)).mono ?_
      rintro e w1 ⟨rfl, hI1, hb1⟩
      cases hok : okN z with
      | true =>
        rw [hok, if_pos rfl] at hI1
        have hts : l.take (j + 1) = l.take j ++ [z] := by rw [List.take_add_one, HZ.out]; rfl
        have HI1 : Hid (Lib.IsBuilderF 71 5 w.heap.size w.heap.size (Lib.byteCells (flat (l.take (j + 1)))) w1) := by
          show Lib.IsBuilderF _ _ _ _ _ _
          rw [hts, flat_snoc]; exact hI1
        have HO1 : Hid ((l.take (j + 1)).all okN = true) := by
          show _ = _
          rw [hts, List.all_append, HO.out]; simp [hok]
        clear hok hts hI1
        go_wp2
        go_roundw
        case rel => exact ⟨j + 1, by omega, by go_num, HO1.out, HI1.out, hb.trans hb1⟩
        case measure => simp [intOf]; omega
      | false =>
        have hn : encV l = .tuple #[.string ⟨#[]⟩, .bool false] := by
          unfold encV
          rw [if_neg]
          intro h
          rw [List.all_eq_true] at h
          have := h z (List.mem_of_getElem? HZ.out)
          rw [hok] at this; cases this
        have HN := Lib.hid hn
        clear hn hI1 hok
        go_wp2
        go_ret2
        exact ⟨by rw [HN.out]; rfl, hb.trans hb1⟩
    · have hn : encV l = .tuple #[.string ⟨(flat l).toArray⟩, .bool true] := by
        have h1 : l.take j = l := List.take_of_length_le (by rw [HL.out]; omega)
        have := HO.out
        rw [h1] at this
        unfold encV
        rw [if_pos this]
      have HI' : Hid (Lib.IsBuilderF 71 5 w.heap.size w.heap.size (Lib.byteCells (flat l)) wr) := by
        have h1 : l.take j = l := List.take_of_length_le (by rw [HL.out]; omega)
        have := HI.out
        rw [h1] at this; exact this
      have HN := Lib.hid hn
      clear hn
      go_wp2_with fail
      refine (Tryd.Builder_String_any_k w.heap.size w.heap.size (flat l) wr HI'.out hb.size).mono ?_
      rintro e w1 ⟨rfl, _, hb1, _⟩
      go_wp2
      go_ret2
      exact ⟨by rw [HN.out]; rfl, hb.trans hb1⟩

set_option maxRecDepth 100000 in
set_option maxHeartbeats 2000000 in
theorem awake_any (w : World) (hT : LenT w) : Calls Tryd.prog 18 #[] w fun e w' => e = .returned (.bool true) ∧ Below w.heap.size w w' := by
  go_enter Tryd.func18, Tryd.ntmps18
  go_wp2_with fail
  refine (encode_any _ 1 1 [8364] _ rfl (by omega) (by omega) (by omega) ?_ ?_).mono ?_
  · intro i z hz
    match i, hz with
    | 0, hz =>
      simp at hz
      subst hz
      exact ⟨w.heap.size, 0, rfl, by simp, by simp [go_sem]⟩
  · exact hT.below ((Below.refl _ _).alloc (Nat.le_refl _) _) hT.1
  · rintro e w1 ⟨rfl, hb1⟩
    have hv : encV [8364] = .tuple #[.string ⟨#[226, 130, 172]⟩, .bool true] := by
      unfold encV
      rw [if_pos (by decide), show flat [8364] = [226, 130, 172] by decide]
    rw [hv]
    clear hv
    go_wp2
    go_ret
    exact ⟨rfl, ((Below.refl _ _).alloc (Nat.le_refl _) _).trans (hb1.mono (by simp))⟩
end Go.Proofs.YtifehdoindbkmaaDoor
