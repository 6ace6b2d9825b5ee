/- Sets of small numbers, as words of bits. -/
import Derived.Test.YtejdfpieblkapaaGreatDoorG1
import Derived.Test.YtejdfpieblkapaaGreatDoorM25
import Derived.Test.YtejdfpieblkapaaGreatDoorM16
namespace Go.Proofs.YtejdfpieblkapaaGreatDoor
open Go.RowKit Go.Shelf

def bt (ws : List Nat) (p : Nat) : Bool := (ws.getD (p / 64) 0).testBit (p % 64)
abbrev uv (x : Nat) : Value := .int .u64 (x : Int)
def BsAt (w : World) (g : Nat) (ws : List Nat) : Prop := w.heap[g]? = some (.cells (ws.map uv).toArray 99 (0, 0)) ∧ ∀ x ∈ ws, x < 2 ^ 64
abbrev bsV (g n : Nat) : Value := .slice (some ⟨g, 0, none⟩) n n
theorem BsAt.keep {w w' : World} {g : Nat} {ws : List Nat} {ex : Nat → Prop} (h : BsAt w g ws) (hk : Kb ex w w') (hx : ¬ ex g) : BsAt w' g ws := ⟨(hk.block g (lt_of_heap h.1) hx).trans h.1, h.2⟩
theorem BsAt.below {w w' : World} {g : Nat} {ws : List Nat} (h : BsAt w g ws) (hk : Below w.heap.size w w') : BsAt w' g ws := ⟨(hk.block g (lt_of_heap h.1)).trans h.1, h.2⟩
theorem BsAt.cell {w : World} {g : Nat} {ws : List Nat} (h : BsAt w g ws) {i : Nat} (hi : i < ws.length) : w.cell? ⟨g, i, none⟩ = some (uv ws[i]) ∧ w.frozen? ⟨g, i, none⟩ = false := by
 refine ⟨?_, Lib.frozen_of_heap h.1 i⟩
 rw [Lib.cell_of_heap h.1]
 simp [hi]
theorem BsAt.set {w : World} {g : Nat} {ws : List Nat} (h : BsAt w g ws) (i x : Nat) (hx : x < 2 ^ 64) : BsAt (w.setCell ⟨g, i, none⟩ (uv x)) g (ws.set i x) := by
 refine ⟨?_, fun y hy => ?_⟩
 ·rw [set_heap w g i _ _ _ _ h.1]
  simp
 ·rcases List.mem_or_eq_of_mem_set hy with hy | hy
  ·exact h.2 y hy
  ·rw [hy]; exact hx
theorem bt_add (ws : List Nat) (p q : Nat) (hp : p / 64 < ws.length) : bt (ws.set (p / 64) (ws[p / 64] ||| 2 ^ (p % 64))) q = (bt ws q || decide (q = p)) := by
 unfold bt
 by_cases hq : q / 64 = p / 64
 ·rw [hq]
  simp only [List.getD_eq_getElem?_getD, List.getElem?_set_self hp, Option.getD_some, List.getElem?_eq_getElem hp, Nat.testBit_or, Nat.testBit_two_pow]
  congr 1
  refine decide_eq_decide.2 ⟨fun h => by omega, fun h => by omega⟩
 ·have : ¬ q = p := fun h => hq (by rw [h])
  simp only [List.getD_eq_getElem?_getD, List.getElem?_set_ne (fun h => hq h.symm)]
  simp [this]
theorem bt_none (n q : Nat) : bt (List.replicate n 0) q = false := by
 unfold bt
 have : (List.replicate n 0).getD (q / 64) 0 = 0 := by
  rw [List.getD_eq_getElem?_getD, List.getElem?_replicate]
  split <;> rfl
 rw [this]; simp
def jn (a b : List Nat) : List Nat := List.zipWith (· ||| ·) a b
theorem jn_len (a b : List Nat) (h : a.length = b.length) : (jn a b).length = a.length := by simp [jn, h]
theorem bt_jn (a b : List Nat) (h : a.length = b.length) (q : Nat) : bt (jn a b) q = (bt a q || bt b q) := by
 unfold bt jn
 simp only [List.getD_eq_getElem?_getD, List.getElem?_zipWith]
 rcases Nat.lt_or_ge (q / 64) a.length with hq | hq
 ·rw [List.getElem?_eq_getElem hq, List.getElem?_eq_getElem (by omega)]
  simp [Nat.testBit_or]
 ·rw [List.getElem?_eq_none hq, List.getElem?_eq_none (by omega)]
  simp
theorem tdiv64 (p : Nat) : Int.tdiv (p : Int) 64 = ((p / 64 : Nat) : Int) := by
 rw [Int.tdiv_eq_ediv_of_nonneg (by omega)]; omega
theorem tmod64 (p : Nat) : Int.tmod (p : Int) 64 = ((p % 64 : Nat) : Int) := by
 rw [Int.tmod_eq_emod_of_nonneg (by omega)]; omega

set_option maxRecDepth 100000 in
set_option maxHeartbeats 1000000 in
theorem bs_add (w : World) (g p n : Nat) (ws : List Nat) (h : BsAt w g ws) (hn : n = ws.length) (hp : p / 64 < ws.length) (hp2 : p < 1000000) :
  Calls Tryz.prog 85 #[bsV g n, .int .i64 p] w fun e w' => e = .returned (.tuple #[]) ∧ BsAt w' g (ws.set (p / 64) (ws[p / 64] ||| 2 ^ (p % 64))) ∧ Kb (fun i => i = g) w w' := by
 obtain ⟨c1, f1⟩ := h.cell hp
 have hW := h.2 _ (List.getElem_mem hp)
 have hpw : 2 ^ (p % 64) < 2 ^ 64 := Nat.pow_lt_pow_right (by omega) (by omega)
 have HS := Lib.hid (h.set (p / 64) (ws[p / 64] ||| 2 ^ (p % 64)) (Nat.or_lt_two_pow hW hpw))
 have hn1 : p / 64 < n := by omega
 generalize hWe : ws[p / 64] = W at c1 hW HS ⊢
 have HW := Lib.hid hW
 clear h hW hWe hp hn
 have d1 := tdiv64 p
 have d2 := tmod64 p
 go_enter Tryz.func85, Tryz.ntmps85
 go_wp2_with fail
 go_region
 go_wp2
 go_end0
 rw [or64 W (p % 64) HW.out (by omega)]
 exact ⟨rfl, HS.out, (Kb.setCell w ⟨g, p / 64, none⟩ _).drew⟩
end Go.Proofs.YtejdfpieblkapaaGreatDoor

/- What gists' list of work does: mathematics. -/
namespace Go.Proofs.YtejdfpieblkapaaGreatDoor
open Go.RowKit Go.Shelf

theorem NdB.inj {w : World} {r r' : Rx} {b : Nat} {P P' : Value} (h : NdB w r b P) (h' : NdB w r' b P') : r.kind = r'.kind ∧ r.ws = r'.ws ∧ P = P' := by
 unfold NdB at h h'
 rw [h] at h'
 injection h' with h'
 injection h' with h1 h2
 have h3 : [Value.int .i64 (r.kind : Int), .int .u64 r.ws.a, .int .u64 r.ws.b, .int .u64 r.ws.c, .int .u64 r.ws.d, P, .int .i64 r.size, .bool r.nul] = [Value.int .i64 (r'.kind : Int), .int .u64 r'.ws.a, .int .u64 r'.ws.b, .int .u64 r'.ws.c, .int .u64 r'.ws.d, P', .int .i64 r'.size, .bool r'.nul] := congrArg Array.toList h1
 simp only [List.cons.injEq, Value.int.injEq, true_and, Value.bool.injEq, and_true] at h3
 obtain ⟨a1, a2, a3, a4, a5, a6, a7, a8⟩ := h3
 refine ⟨by omega, ?_, a6⟩
 revert a2 a3 a4 a5
 cases r.ws; cases r'.ws
 intro a2 a3 a4 a5
 have b2 := Int.ofNat_inj.1 a2
 have b3 := Int.ofNat_inj.1 a3
 have b4 := Int.ofNat_inj.1 a4
 have b5 := Int.ofNat_inj.1 a5
 simp only [Ws.mk.injEq]
 exact ⟨b2, b3, b4, b5⟩
theorem NdAt.inj {w : World} : ∀ {r r' : Rx} {b : Nat}, NdAt w r b → NdAt w r' b → r = r'
 | .set s, r', b, h, h' => by
  obtain ⟨A, n, hb, hn⟩ := h'.blk
  have h0 : NdB w (.set s) b (.slice none 0 0) := h
  obtain ⟨k1, k2, k3⟩ := h0.inj hb
  cases r' <;> simp [Rx.kind] at k1
  simp only [Rx.ws] at k2
  rw [k2]
 | .empty, r', b, h, h' => by
  obtain ⟨A, n, hb, hn⟩ := h'.blk
  have h0 : NdB w .empty b (.slice none 0 0) := h
  obtain ⟨k1, k2, k3⟩ := h0.inj hb
  cases r' <;> simp [Rx.kind] at k1
  rfl
 | .cat x y, r', b, h, h' => by
  obtain ⟨g, bx, bY, h1, h2, h3, h4⟩ := h
  obtain ⟨A, n, hb, hn⟩ := h'.blk
  obtain ⟨k1, k2, k3⟩ := h1.inj hb
  cases r' with
  | cat x' y' =>
   obtain ⟨g', bx', bY', h1', h2', h3', h4'⟩ := h'
   have e := (h1.inj h1').2.2
   simp only [Value.slice.injEq, Option.some.injEq, Addr.mk.injEq, and_true] at e
   subst e
   rw [h2] at h2'
   simp only [Option.some.injEq, Obj.cells.injEq, Array.mk.injEq, List.cons.injEq, Value.pointer.injEq, Addr.mk.injEq, and_true] at h2'
   obtain ⟨rfl, rfl⟩ := h2'
   rw [NdAt.inj h3 h3', NdAt.inj h4 h4']
  | _ => simp [Rx.kind] at k1
 | .or x y, r', b, h, h' => by
  obtain ⟨g, bx, bY, h1, h2, h3, h4⟩ := h
  obtain ⟨A, n, hb, hn⟩ := h'.blk
  obtain ⟨k1, k2, k3⟩ := h1.inj hb
  cases r' with
  | or x' y' =>
   obtain ⟨g', bx', bY', h1', h2', h3', h4'⟩ := h'
   have e := (h1.inj h1').2.2
   simp only [Value.slice.injEq, Option.some.injEq, Addr.mk.injEq, and_true] at e
   subst e
   rw [h2] at h2'
   simp only [Option.some.injEq, Obj.cells.injEq, Array.mk.injEq, List.cons.injEq, Value.pointer.injEq, Addr.mk.injEq, and_true] at h2'
   obtain ⟨rfl, rfl⟩ := h2'
   rw [NdAt.inj h3 h3', NdAt.inj h4 h4']
  | _ => simp [Rx.kind] at k1
 | .star x, r', b, h, h' => by
  obtain ⟨g, bx, h1, h2, h3⟩ := h
  obtain ⟨A, n, hb, hn⟩ := h'.blk
  obtain ⟨k1, k2, k3⟩ := h1.inj hb
  cases r' with
  | star x' =>
   obtain ⟨g', bx', h1', h2', h3'⟩ := h'
   have e := (h1.inj h1').2.2
   simp only [Value.slice.injEq, Option.some.injEq, Addr.mk.injEq, and_true] at e
   subst e
   rw [h2] at h2'
   simp only [Option.some.injEq, Obj.cells.injEq, Array.mk.injEq, List.cons.injEq, Value.pointer.injEq, Addr.mk.injEq, and_true] at h2'
   subst h2'
   rw [NdAt.inj h3 h3']
  | _ => simp [Rx.kind] at k1

def Rx.kidsL : Rx → List Rx
 | .cat a b => [a, b]
 | .or a b => [a, b]
 | .star a => [a]
 | _ => []
def Kids (w : World) (b : Nat) (ks : List Nat) : Prop := ∃ r A, NdB w r b (.slice A ks.length ks.length) ∧ (ks = [] ∨ ∃ g, A = some ⟨g, 0, none⟩ ∧ w.heap[g]? = some (.cells (ks.map ptr).toArray 68 (0, 0)))
theorem ptr_map_inj {l l' : List Nat} (h : l.map ptr = l'.map ptr) : l = l' := by
 induction l generalizing l' with
 | nil => cases l' <;> simp at h ⊢
 | cons a l ih =>
  cases l' with
  | nil => simp at h
  | cons a' l' =>
   simp only [List.map_cons, List.cons.injEq, Value.pointer.injEq, Option.some.injEq, Addr.mk.injEq, and_true] at h
   rw [h.1, ih h.2]
theorem Kids.inj {w : World} {b : Nat} {ks ks' : List Nat} (h : Kids w b ks) (h' : Kids w b ks') : ks = ks' := by
 obtain ⟨r, A, h1, h2⟩ := h
 obtain ⟨r', A', h1', h2'⟩ := h'
 have e := (h1.inj h1').2.2
 simp only [Value.slice.injEq] at e
 obtain ⟨rfl, e2, _⟩ := e
 rcases h2 with rfl | ⟨g, rfl, hg⟩
 ·exact (List.eq_nil_of_length_eq_zero (by simpa using e2.symm)).symm
 ·rcases h2' with rfl | ⟨g', e', hg'⟩
  ·exact List.eq_nil_of_length_eq_zero (by simpa using e2)
  ·simp only [Option.some.injEq, Addr.mk.injEq, and_true] at e'
   subst e'
   rw [hg] at hg'
   simp only [Option.some.injEq, Obj.cells.injEq, List.toArray_eq_toArray_eq, and_true] at hg'
   have : ks.map ptr = ks'.map ptr := by simpa using hg'
   exact ptr_map_inj this
theorem Kids.keep {w w' : World} {b : Nat} {ks : List Nat} (h : Kids w b ks) (hk : KN w w') : Kids w' b ks := by
 obtain ⟨r, A, h1, h2⟩ := h
 refine ⟨r, A, hk _ _ _ _ h1 (.inl rfl), ?_⟩
 rcases h2 with h2 | ⟨g, h2, h3⟩
 ·exact .inl h2
 ·exact .inr ⟨g, h2, hk _ _ _ _ h3 (.inr rfl)⟩
theorem Kids.row {w : World} {b : Nat} {ks : List Nat} (h : Kids w b ks) : ∃ r A, NdB w r b (.slice A ks.length ks.length) ∧ RowAt w A ks := by
 obtain ⟨r, A, h1, h2⟩ := h
 refine ⟨r, A, h1, ?_⟩
 rcases h2 with rfl | ⟨g, rfl, h3⟩
 ·exact .inl rfl
 ·exact .inr ⟨g, _, _, rfl, h3, fun i c hi => by simp [hi]⟩
theorem NdAt.kids {w : World} : ∀ {r : Rx} {b : Nat}, NdAt w r b → ∃ ks, Kids w b ks ∧ NdsAt w r.kidsL ks
 | .set s, b, h => ⟨[], ⟨.set s, none, h, .inl rfl⟩, rfl, by simp [Rx.kidsL]⟩
 | .empty, b, h => ⟨[], ⟨.empty, none, h, .inl rfl⟩, rfl, by simp [Rx.kidsL]⟩
 | .cat x y, b, ⟨g, bx, bY, h1, h2, h3, h4⟩ => ⟨[bx, bY], ⟨_, _, h1, .inr ⟨g, rfl, h2⟩⟩, rfl, fun i r c hi hc => by
  rcases i with _ | _ | i
  ·simp [Rx.kidsL] at hi hc; subst hi; subst hc; exact h3
  ·simp [Rx.kidsL] at hi hc; subst hi; subst hc; exact h4
  ·simp at hc⟩
 | .or x y, b, ⟨g, bx, bY, h1, h2, h3, h4⟩ => ⟨[bx, bY], ⟨_, _, h1, .inr ⟨g, rfl, h2⟩⟩, rfl, fun i r c hi hc => by
  rcases i with _ | _ | i
  ·simp [Rx.kidsL] at hi hc; subst hi; subst hc; exact h3
  ·simp [Rx.kidsL] at hi hc; subst hi; subst hc; exact h4
  ·simp at hc⟩
 | .star x, b, ⟨g, bx, h1, h2, h3⟩ => ⟨[bx], ⟨_, _, h1, .inr ⟨g, rfl, h2⟩⟩, rfl, fun i r c hi hc => by
  rcases i with _ | i
  ·simp [Rx.kidsL] at hi hc; subst hi; subst hc; exact h3
  ·simp at hc⟩

def GsV (w : World) (f : Value → Option Value) (r : Rx) (v : Value) : Prop :=
 ∃ c, v = .agg #[.int .i64 (min r.cnt 2001 : Nat), c, .bool r.gst] ∧ ((r.core = none ∧ c = .pointer none) ∨ ∃ k bk, r.core = some k ∧ c = ptr bk ∧ NdAt w k bk ∧ (f (ptr bk)).isSome = true)
def GsOk (w : World) (f : Value → Option Value) : Prop := ∀ k v, f k = some v → ∃ b r ks, k = ptr b ∧ NdAt w r b ∧ GsV w f r v ∧ Kids w b ks ∧ ∀ c ∈ ks, (f (ptr c)).isSome = true
theorem GsV.mono {w : World} {f f' : Value → Option Value} {r : Rx} {v : Value} (h : GsV w f r v) (hf : ∀ k, (f k).isSome = true → (f' k).isSome = true) : GsV w f' r v := by
 obtain ⟨c, h1, h2⟩ := h
 refine ⟨c, h1, ?_⟩
 rcases h2 with h2 | ⟨k, bk, a, b, d, e⟩
 ·exact .inl h2
 ·exact .inr ⟨k, bk, a, b, d, hf _ e⟩
theorem GsV.keep {w w' : World} {f : Value → Option Value} {r : Rx} {v : Value} (h : GsV w f r v) (hk : KN w w') : GsV w' f r v := by
 obtain ⟨c, h1, h2⟩ := h
 refine ⟨c, h1, ?_⟩
 rcases h2 with h2 | ⟨k, bk, a, b, d, e⟩
 ·exact .inl h2
 ·exact .inr ⟨k, bk, a, b, d.keep hk, e⟩
theorem GsOk.keep {w w' : World} {f : Value → Option Value} (h : GsOk w f) (hk : KN w w') : GsOk w' f := fun k v hkv => by
 obtain ⟨b, r, ks, h1, h2, h3, h4, h5⟩ := h k v hkv
 exact ⟨b, r, ks, h1, h2.keep hk, h3.keep hk, h4.keep hk, h5⟩
theorem GsOk.at {w : World} {f : Value → Option Value} (h : GsOk w f) {r : Rx} {b : Nat} {v : Value} (hr : NdAt w r b) (hf : f (ptr b) = some v) : GsV w f r v ∧ ∀ ks, Kids w b ks → ∀ c ∈ ks, (f (ptr c)).isSome = true := by
 obtain ⟨b', r', ks, h1, h2, h3, h4, h5⟩ := h _ v hf
 simp only [Value.pointer.injEq, Option.some.injEq, Addr.mk.injEq, and_true] at h1
 subst h1
 rw [hr.inj h2]
 exact ⟨h3, fun ks' hk => by rw [hk.inj h4]; exact h5⟩
theorem some_upd {f f' : Value → Option Value} {key v : Value} (h1 : f' key = some v) (h2 : ∀ k, k ≠ key → f' k = f k) : ∀ k, (f k).isSome = true → (f' k).isSome = true := fun k hk => by
 by_cases h : k = key
 ·rw [h, h1]; rfl
 ·rw [h2 k h]; exact hk
theorem GsOk.put {w : World} {f f' : Value → Option Value} (h : GsOk w f) {r : Rx} {b : Nat} {ks : List Nat} {v : Value} (hr : NdAt w r b) (h1 : f' (ptr b) = some v) (h2 : ∀ k, k ≠ ptr b → f' k = f k) (hv : GsV w f' r v) (hk : Kids w b ks) (hks : ∀ c ∈ ks, (f (ptr c)).isSome = true) : GsOk w f' := by
 have hm := some_upd h1 h2
 intro k u hku
 by_cases he : k = ptr b
 ·subst he
  rw [h1] at hku
  injection hku with hku
  subst hku
  exact ⟨b, r, ks, rfl, hr, hv, hk, fun c hc => hm _ (hks c hc)⟩
 ·rw [h2 k he] at hku
  obtain ⟨b', r', ks', a1, a2, a3, a4, a5⟩ := h k u hku
  exact ⟨b', r', ks', a1, a2, a3.mono hm, a4, fun c hc => hm _ (a5 c hc)⟩

def Rx.tm : Rx → Nat
 | .set _ => 1
 | .empty => 1
 | .cat a b => a.tm + b.tm + 2
 | .or a b => a.tm + b.tm + 2
 | .star a => a.tm + 2
theorem Rx.tm_pos (r : Rx) : 1 ≤ r.tm := by cases r <;> simp [Rx.tm] <;> omega
theorem Rx.tm_kids (r : Rx) : (r.kidsL.map Rx.tm).sum + 1 ≤ r.tm ∧ (r.kidsL ≠ [] → (r.kidsL.map Rx.tm).sum + 2 ≤ r.tm) := by
 cases r <;> simp [Rx.tm, Rx.kidsL] <;> omega
abbrev Ent := Nat × Rx × Bool
def Ent.cost (e : Ent) : Nat := if e.2.2 = true then 1 else e.2.1.tm
def cost (S : List Ent) : Nat := (S.map Ent.cost).sum
theorem cost_app (S T : List Ent) : cost (S ++ T) = cost S + cost T := by simp [cost]
theorem cost_one (e : Ent) : cost [e] = e.cost := by simp [cost]
structure GL (w : World) (rs : List Nat) (f : Value → Option Value) (S : List Ent) : Prop where
 nd : ∀ e ∈ S, NdAt w e.2.1 e.1
 ok : GsOk w f
 fl : ∀ (i : Nat) (e : Ent), S[i]? = some e → e.2.2 = true → ∀ ks, Kids w e.1 ks → ∀ c ∈ ks, (f (ptr c)).isSome = true ∨ ∃ j e', i < j ∧ S[j]? = some e' ∧ e'.1 = c
 root : ∀ c ∈ rs, (f (ptr c)).isSome = true ∨ ∃ e ∈ S, e.1 = c
theorem GL.pop {w : World} {rs : List Nat} {f f' : Value → Option Value} {S : List Ent} {e : Ent} {v : Value} {ks : List Nat} (h : GL w rs f (S ++ [e])) (h1 : f' (ptr e.1) = some v) (h2 : ∀ k, k ≠ ptr e.1 → f' k = f k) (hv : GsV w f' e.2.1 v) (hk : Kids w e.1 ks) (hks : ∀ c ∈ ks, (f (ptr c)).isSome = true) :
  GL w rs f' S ∧ cost S < cost (S ++ [e]) := by
 have hm := some_upd h1 h2
 refine ⟨⟨fun x hx => h.nd x (by simp [hx]), h.ok.put (h.nd e (by simp)) h1 h2 hv hk hks, fun i x hx hfl ks' hk' c hc => ?_, fun c hc => ?_⟩, ?_⟩
 ·have hi := (List.getElem?_eq_some_iff.1 hx).1
  rcases h.fl i x (by rw [List.getElem?_append_left hi]; exact hx) hfl ks' hk' c hc with h3 | ⟨j, e', h3, h4, h5⟩
  ·exact .inl (hm _ h3)
  ·rcases Nat.lt_or_ge j S.length with hj | hj
   ·exact .inr ⟨j, e', h3, by rw [List.getElem?_append_left hj] at h4; exact h4, h5⟩
   ·rw [List.getElem?_append_right hj] at h4
    have : e' = e := by
     rcases hjj : j - S.length with _ | m
     ·rw [hjj] at h4; simpa using h4.symm
     ·rw [hjj] at h4; simp at h4
    subst this
    rw [← h5, h1]; exact .inl rfl
 ·rcases h.root c hc with h3 | ⟨x, hx, rfl⟩
  ·exact .inl (hm _ h3)
  ·rcases List.mem_append.1 hx with hx | hx
   ·exact .inr ⟨x, hx, rfl⟩
   ·simp only [List.mem_singleton] at hx
    subst hx
    rw [h1]; exact .inl rfl
 ·rw [cost_app, cost_one]
  have : 1 ≤ e.cost := by
   unfold Ent.cost
   split
   ·exact Nat.le_refl _
   ·exact Rx.tm_pos _
  omega
def missing (f : Value → Option Value) : List Nat → List Rx → List Ent
 | c :: ks, x :: xs => if (f (ptr c)).isSome = true then missing f ks xs else (c, x, false) :: missing f ks xs
 | _, _ => []
theorem missing_cost (f : Value → Option Value) : ∀ (ks : List Nat) (xs : List Rx), cost (missing f ks xs) ≤ (xs.map Rx.tm).sum
 | [], xs => by simp [missing, cost]
 | c :: ks, [] => by simp [missing, cost]
 | c :: ks, x :: xs => by
  have ih := missing_cost f ks xs
  unfold missing
  split
  ·simp only [List.map_cons, List.sum_cons]; omega
  ·simp only [cost, Ent.cost, List.map_cons, List.sum_cons, Bool.false_eq_true, if_false] at ih ⊢
   omega
theorem missing_mem (f : Value → Option Value) : ∀ (ks : List Nat) (xs : List Rx), ks.length = xs.length → ∀ e, e ∈ missing f ks xs ↔ e.2.2 = false ∧ ¬ (f (ptr e.1)).isSome = true ∧ ∃ i : Nat, ks[i]? = some e.1 ∧ xs[i]? = some e.2.1
 | [], xs, h, e => by simp [missing]
 | c :: ks, [], h, e => by simp at h
 | c :: ks, x :: xs, h, e => by
  have ih := missing_mem f ks xs (by simpa using h) e
  unfold missing
  split
  ·rename_i hc
   rw [ih]
   constructor
   ·rintro ⟨h1, h2, i, h3, h4⟩
    exact ⟨h1, h2, i + 1, by simpa using h3, by simpa using h4⟩
   ·rintro ⟨h1, h2, i, h3, h4⟩
    rcases i with _ | i
    ·simp at h3; subst h3; exact absurd hc h2
    ·exact ⟨h1, h2, i, by simpa using h3, by simpa using h4⟩
  ·rename_i hc
   rw [List.mem_cons, ih]
   constructor
   ·rintro (rfl | ⟨h1, h2, i, h3, h4⟩)
    ·exact ⟨rfl, hc, 0, rfl, rfl⟩
    ·exact ⟨h1, h2, i + 1, by simpa using h3, by simpa using h4⟩
   ·rintro ⟨h1, h2, i, h3, h4⟩
    rcases i with _ | i
    ·obtain ⟨c', x', b'⟩ := e
     simp at h1 h3 h4
     exact .inl (by rw [h1, h3, h4])
    ·exact .inr ⟨h1, h2, i, by simpa using h3, by simpa using h4⟩
theorem missing_fst (f : Value → Option Value) : ∀ (ks : List Nat) (xs : List Rx), ks.length = xs.length → (missing f ks xs).map (·.1) = ks.filter (fun c => !(f (ptr c)).isSome)
 | [], xs, h => by simp [missing]
 | c :: ks, [], h => by simp at h
 | c :: ks, x :: xs, h => by
  have ih := missing_fst f ks xs (by simpa using h)
  unfold missing
  split
  ·rename_i hc
   rw [ih, List.filter_cons_of_neg (by rw [hc]; decide)]
  ·rename_i hc
   rw [List.map_cons, ih, List.filter_cons_of_pos (by rw [Bool.not_eq_true] at hc; rw [hc]; rfl)]
theorem GL.push {w : World} {rs : List Nat} {f : Value → Option Value} {S : List Ent} {b : Nat} {r : Rx} {fl : Bool} {ks : List Nat} (h : GL w rs f (S ++ [(b, r, fl)])) (hk : Kids w b ks) (hn : NdsAt w r.kidsL ks) (hm : missing f ks r.kidsL ≠ []) :
  GL w rs f (S ++ [(b, r, true)] ++ missing f ks r.kidsL) ∧ cost (S ++ [(b, r, true)] ++ missing f ks r.kidsL) < cost (S ++ [(b, r, fl)]) := by
 have hlen : ks.length = r.kidsL.length := hn.1.symm
 have hmm := missing_mem f ks r.kidsL hlen
 have hfl : fl = false := by
  cases hfl : fl with
  | false => rfl
  | true =>
   exfalso
   obtain ⟨e, he⟩ := List.exists_mem_of_ne_nil _ hm
   obtain ⟨_, h2, i, h3, _⟩ := (hmm e).1 he
   have := h.fl S.length (b, r, fl) (by simp) hfl ks hk e.1 (List.mem_of_getElem? h3)
   rcases this with h4 | ⟨j, e', h4, h5, _⟩
   ·exact h2 h4
   ·have := (List.getElem?_eq_some_iff.1 h5).1
    simp at this; omega
 subst hfl
 refine ⟨⟨fun e he => ?_, h.ok, fun i e he hf ks' hk' c hc => ?_, fun c hc => ?_⟩, ?_⟩
 ·simp only [List.mem_append, List.mem_singleton] at he
  rcases he with (he | rfl) | he
  ·exact h.nd e (by simp [he])
  ·exact h.nd (b, r, false) (by simp)
  ·obtain ⟨_, _, i, h3, h4⟩ := (hmm e).1 he
   exact hn.2 i _ _ h4 h3
 ·rcases Nat.lt_or_ge i S.length with hi | hi
  ·rw [List.append_assoc, List.getElem?_append_left hi] at he
   rcases h.fl i e (by rw [List.getElem?_append_left hi]; exact he) hf ks' hk' c hc with h3 | ⟨j, e', h3, h4, h5⟩
   ·exact .inl h3
   ·rcases Nat.lt_or_ge j S.length with hj | hj
    ·exact .inr ⟨j, e', h3, by rw [List.append_assoc, List.getElem?_append_left hj]; rw [List.getElem?_append_left hj] at h4; exact h4, h5⟩
    ·refine .inr ⟨S.length, (b, r, true), hi, by simp, ?_⟩
     rw [List.getElem?_append_right hj] at h4
     rcases hjj : j - S.length with _ | m
     ·rw [hjj] at h4; simp at h4; rw [← h4] at h5; exact h5
     ·rw [hjj] at h4; simp at h4
  ·rcases Nat.eq_or_lt_of_le hi with hi | hi
   ·rw [← hi] at he
    have : e = (b, r, true) := by simpa using he.symm
    subst this
    have := hk'.inj hk
    subst this
    by_cases hf' : (f (ptr c)).isSome = true
    ·exact .inl hf'
    ·obtain ⟨m, hm'⟩ := List.getElem?_of_mem hc
     have hml : m < r.kidsL.length := by rw [← hlen]; exact (List.getElem?_eq_some_iff.1 hm').1
     have : (c, r.kidsL[m], false) ∈ missing f ks' r.kidsL := (hmm _).2 ⟨rfl, hf', m, hm', List.getElem?_eq_getElem hml⟩
     obtain ⟨j, hj⟩ := List.getElem?_of_mem this
     refine .inr ⟨S.length + 1 + j, (c, r.kidsL[m], false), by omega, ?_, rfl⟩
     rw [List.getElem?_append_right (by simp)]
     simpa using hj
   ·rw [List.getElem?_append_right (by simp; omega)] at he
    have := ((hmm e).1 (List.mem_of_getElem? he)).1
    rw [this] at hf; cases hf
 ·rcases h.root c hc with h3 | ⟨x, hx, rfl⟩
  ·exact .inl h3
  ·rcases List.mem_append.1 hx with hx | hx
   ·exact .inr ⟨x, by simp [hx], rfl⟩
   ·simp only [List.mem_singleton] at hx
    subst hx
    exact .inr ⟨(b, r, true), by simp, rfl⟩
 ·have h1 := missing_cost f ks r.kidsL
  have h2 := r.tm_kids
  have hne : r.kidsL ≠ [] := by
   intro e
   rw [e] at hm
   apply hm
   cases ks <;> rfl
  have h3 := h2.2 hne
  rw [cost_app, cost_app, cost_app, cost_one, cost_one]
  simp only [Ent.cost, if_true, Bool.false_eq_true, if_false]
  omega
theorem missing_nil {f : Value → Option Value} {ks : List Nat} {xs : List Rx} (h : ks.length = xs.length) (hm : missing f ks xs = []) : ∀ c ∈ ks, (f (ptr c)).isSome = true := by
 intro c hc
 have := missing_fst f ks xs h
 rw [hm] at this
 simp only [List.map_nil] at this
 have h2 := List.filter_eq_nil_iff.1 this.symm c hc
 cases hf : (f (ptr c)).isSome with
 | true => rfl
 | false => rw [hf] at h2; exact absurd rfl h2
end Go.Proofs.YtejdfpieblkapaaGreatDoor
