/- Maps as blocks, key by key, whatever the keys and elements. -/
import Derived.Test.YtejdfpieblkapaaGreatDoorM1
import Derived.Maps.RangeWalk
import Derived.LaidEqlPtr
namespace Go.Proofs.YtejdfpieblkapaaGreatDoor
open Go.RowKit Go.MapKept Go.ChangeMaps

structure KeyIn (P : Program) (w : World) (kt : TypeId) (Kd : Value → Prop) : Prop where
 check : ∀ em v, Kd v → (Instr.checkKey em 10000 kt v).run P w = .ok () w
 find : ∀ x, Kd x → ∀ es : List MapEntry, (∀ e ∈ es, Kd e.key) → ((Instr.findKey kt x es).run P w = .ok none w ∧ ∀ e ∈ es, e.key ≠ x) ∨ ∃ j e, (Instr.findKey kt x es).run P w = .ok (some (j, e.val)) w ∧ es[j]? = some e ∧ e.key = x
 stays : ∀ v, Kd v → (Instr.keyThatStays v v).run P w = .ok v w
theorem keyIn_of {P : Program} {w : World} {kt : TypeId} {d : TypeDesc} (hk : P.underlying kt = some d) {Kd : Value → Prop} (hd : ∀ v, Kd v → IsKey d v) : KeyIn P w kt Kd where
 check em v hv := run_checkKey hk (hd v hv) em 9999
 find x hx es hes := by
  rcases findNow_spec (hd x hx) es 0 (fun e he => hd _ (hes e he)) with ⟨h1, h2⟩ | ⟨j, e0, h1, h2, h3⟩
  ·exact Or.inl ⟨run_findKey hk h1, h2⟩
  ·exact Or.inr ⟨j, e0, by simpa using run_findKey hk h1, h2, h3⟩
 stays v hv := run_keyThatStays (hd v hv)
def IntK (v : Value) : Prop := ∃ n : Int, v = .int .i64 n
def StrK (v : Value) : Prop := ∃ s : ByteArray, v = .string s
theorem keyIn_int {P : Program} {w : World} {kt : TypeId} (hk : P.underlying kt = some (.int .i64)) : KeyIn P w kt IntK := keyIn_of hk (fun v ⟨n, h⟩ => by subst h; rfl)
theorem keyIn_str {P : Program} {w : World} {kt : TypeId} (hk : P.underlying kt = some .string) : KeyIn P w kt StrK := keyIn_of hk (fun v ⟨n, h⟩ => by subst h; trivial)
def PtrK (w : World) (v : Value) : Prop := ∃ g cs t, v = ptr g ∧ w.heap[g]? = some (.cells cs t (0, 0))
theorem run_equal_ptr {P : Program} (w : World) {tp te : TypeId} {j : TypeInfo} (hp : P.underlying tp = some (.pointer te)) (hte : P.info? te = some j) (hsz : j.size ≠ 0) {a b : Value} (ha : PtrK w a) (hb : PtrK w b) :
  ∃ r : Bool, (Op.equal tp a b).run P w = .ok r w ∧ (r = true ↔ a = b) := by
 obtain ⟨g, cs, t, rfl, hg⟩ := ha
 obtain ⟨g', cs', t', rfl, hg'⟩ := hb
 by_cases h : g = g'
 ·subst h
  have h : ∀ d : Nat, (Op.equalIn (d + 1) tp (ptr g) (ptr g)).run P w = .ok true w := fun d => by
   simp [Op.equalIn, run_underlying hp, sizeOf, typeInfo, hte, run_sameAddr_same]
  exact ⟨true, h 9999, by simp⟩
 ·have hne : (⟨g, 0, none⟩ : Addr) ≠ ⟨g', 0, none⟩ := fun e => h (congrArg Addr.block e)
  have h' : ∀ d : Nat, (Op.equalIn (d + 1) tp (ptr g) (ptr g')).run P w = .ok false w := fun d => by
   simp [Op.equalIn, run_underlying hp, sizeOf, typeInfo, hte, hsz, run_sameAddr_other w hne hg hg']
  exact ⟨false, h' 9999, by simp⟩
theorem find_ptr {P : Program} (w : World) {tp te : TypeId} {j : TypeInfo} (hp : P.underlying tp = some (.pointer te)) (hte : P.info? te = some j) (hsz : j.size ≠ 0) {x : Value} (hx : PtrK w x) : ∀ (es : List MapEntry) (i : Nat), (∀ e ∈ es, PtrK w e.key) →
  ((Instr.findAsking tp x es i).run P w = .ok none w ∧ ∀ e ∈ es, e.key ≠ x) ∨ ∃ j e, (Instr.findAsking tp x es i).run P w = .ok (some (i + j, e.val)) w ∧ es[j]? = some e ∧ e.key = x
 | [], i, _ => .inl ⟨by simp [Instr.findAsking], by simp⟩
 | e :: es, i, h => by
  obtain ⟨r, hr, hiff⟩ := run_equal_ptr w hp hte hsz hx (h e (by simp))
  cases r with
  | true => exact .inr ⟨0, e, by simp [Instr.findAsking, hr, Result.andThen], rfl, (hiff.1 rfl).symm⟩
  | false =>
   have hne : e.key ≠ x := fun q => by have := hiff.2 q.symm; cases this
   rcases find_ptr w hp hte hsz hx es (i + 1) (fun y hy => h y (by simp [hy])) with ⟨h1, h2⟩ | ⟨j, e', h1, h2, h3⟩
   ·refine .inl ⟨by simp [Instr.findAsking, hr, h1, Result.andThen], fun y hy => ?_⟩
    rcases List.mem_cons.1 hy with rfl | hy
    ·exact hne
    ·exact h2 y hy
   ·exact .inr ⟨j + 1, e', by simp [Instr.findAsking, hr, h1, Result.andThen]; omega, by simpa using h2, h3⟩
theorem keyIn_ptr {P : Program} (w : World) {tp te : TypeId} {j : TypeInfo} (hp : P.underlying tp = some (.pointer te)) (hte : P.info? te = some j) (hsz : j.size ≠ 0) : KeyIn P w tp (PtrK w) where
 check em v hv := by
  obtain ⟨g, cs, t, rfl, hg⟩ := hv
  have h : ∀ n : Nat, (Instr.checkKey em (n + 1) tp (ptr g)).run P w = .ok () w := fun n => by
   unfold Instr.checkKey
   simp only [Sem.run_bind, run_underlying hp, Result.andThen]
   rfl
  exact h 9999
 find x hx es hes := by
  have hnow : ∀ l : List MapEntry, (∀ e ∈ l, PtrK w e.key) → l ≠ [] → Instr.findNow (.pointer te) x l 0 = none := by
   intro l hl hne
   cases l with
   | nil => exact absurd rfl hne
   | cons e l =>
    obtain ⟨g, cs, t, h1, _⟩ := hl e (by simp)
    obtain ⟨g', cs', t', h2, _⟩ := hx
    simp [Instr.findNow, Instr.sameNow]
  by_cases he : es = []
  ·subst he
   exact .inl ⟨by simp [Instr.findKey, run_underlying hp, Instr.findNow, Result.andThen], by simp⟩
  ·rcases find_ptr w hp hte hsz hx es 0 hes with ⟨h1, h2⟩ | ⟨j, e', h1, h2, h3⟩
   ·exact .inl ⟨by simp [Instr.findKey, run_underlying hp, hnow es hes he, Result.andThen, h1], h2⟩
   ·exact .inr ⟨j, e', by simp [Instr.findKey, run_underlying hp, hnow es hes he, Result.andThen, h1], h2, h3⟩
 stays v hv := by
  obtain ⟨g, cs, t, rfl, hg⟩ := hv
  simp [Instr.keyThatStays, Instr.sameBits]

def MpAt (w : World) (b : Nat) (Kd : Value → Prop) (f : Value → Option Value) (n : Nat) : Prop :=
 ∃ es clock, w.heap[b]? = some (.map es clock) ∧ Stamped es clock ∧ (∀ e ∈ es.toList, Kd e.key) ∧ es.size = n ∧ ∀ k v, f k = some v ↔ ∃ e ∈ es.toList, e.key = k ∧ e.val = v
theorem MpAt.lt {w : World} {b n : Nat} {Kd : Value → Prop} {f : Value → Option Value} (h : MpAt w b Kd f n) : b < w.heap.size := by
 obtain ⟨es, clock, hb, _⟩ := h
 exact lt_of_heap hb
theorem MpAt.made (w : World) (Kd : Value → Prop) : MpAt (w.alloc (.map #[] 0)) w.heap.size Kd (fun _ => none) 0 :=
 ⟨#[], 0, (MapKept.heap_alloc w _).1, stamped_empty 0, by simp, rfl, by simp⟩
theorem MpAt.keep {w w' : World} {b n : Nat} {Kd Kd' : Value → Prop} {f : Value → Option Value} (h : MpAt w b Kd f n) (hk : w'.heap[b]? = w.heap[b]?) (hd : ∀ v, Kd v → Kd' v) : MpAt w' b Kd' f n := by
 obtain ⟨es, clock, hb, h1, h2, h3, h4⟩ := h
 exact ⟨es, clock, hk.trans hb, h1, fun e he => hd _ (h2 e he), h3, h4⟩
theorem MpAt.look {P : Program} {w : World} {b n : Nat} {Kd : Value → Prop} {f : Value → Option Value} (h : MpAt w b Kd f n) {t kt e : TypeId} (K : KeyIn P w kt Kd) (ht : P.underlying t = some (.map kt e)) {z : Value} (hz : (zeroValue e).run P w = .ok z w) (c : Bool) {key : Value} (hkey : Kd key) :
  (Instr.lookup t (.map (some b)) key c).run P w = .ok (if c = true then .tuple #[(f key).getD z, .bool (f key).isSome] else (f key).getD z) w := by
 obtain ⟨es, clock, hb, h1, h2, _, h4⟩ := h
 rcases K.find key hkey es.toList h2 with ⟨f1, f2⟩ | ⟨j, e0, f1, f2, f3⟩
 ·have hf : f key = none := by
   cases hfk : f key with
   | none => rfl
   | some v => obtain ⟨x, hx, hxk, _⟩ := (h4 key v).1 hfk; exact absurd hxk (f2 x hx)
  rw [hf]
  cases c <;> simp [Instr.lookup, run_underlying ht, MapKept.run_getObj_map hb, K.check _ _ hkey, f1, hz, Result.andThen]
 ·have hf : f key = some e0.val := (h4 key _).2 ⟨e0, List.mem_of_getElem? f2, f3, rfl⟩
  rw [hf]
  cases c <;> simp [Instr.lookup, run_underlying ht, MapKept.run_getObj_map hb, K.check _ _ hkey, f1, Result.andThen]
theorem mem_modify_iff {es : Array MapEntry} {clock j : Nat} {e0 : MapEntry} (hs : Stamped es clock) (h2 : es.toList[j]? = some e0) (key val : Value) (h3 : e0.key = key) (x : MapEntry) :
  x ∈ (es.modify j (fun e' => { e' with key := key, val := val })).toList ↔ (x ∈ es.toList ∧ x.key ≠ key) ∨ x = { e0 with key := key, val := val } := by
 have hjl : j < es.toList.length := (List.getElem?_eq_some_iff.1 h2).1
 rw [Array.toList_modify, ChangeMaps.modify_eq_set _ _ _ _ h2]
 have hpw := hs.2.2
 constructor
 ·intro hx
  obtain ⟨i, hi, ex⟩ := List.getElem_of_mem hx
  rw [List.getElem_set] at ex
  split at ex
  ·exact .inr ex.symm
  ·rename_i hne
   have hi' : i < es.toList.length := by simpa using hi
   refine .inl ⟨ex ▸ List.getElem_mem hi', fun hk => hne ?_⟩
   have h4 : (es.toList.map (·.key))[i]'(by simpa using hi') = (es.toList.map (·.key))[j]'(by simpa using hjl) := by
    simp only [List.getElem_map]
    rw [ex, hk, ← h3]
    have := (List.getElem?_eq_some_iff.1 h2).2
    rw [this]
   exact ((List.getElem_inj hpw).1 h4).symm
 ·rintro (⟨hx, hk⟩ | rfl)
  ·obtain ⟨i, hi, ex⟩ := List.getElem_of_mem hx
   refine List.mem_iff_getElem.2 ⟨i, by simpa using hi, ?_⟩
   rw [List.getElem_set]
   split
   ·rename_i he
    subst he
    have := (List.getElem?_eq_some_iff.1 h2).2
    rw [← this] at h3
    rw [ex] at h3
    exact absurd h3 hk
   ·exact ex
  ·exact List.mem_iff_getElem.2 ⟨j, by simpa using hjl, by simp⟩
theorem MpAt.store {P : Program} {w : World} {b n : Nat} {Kd : Value → Prop} {f : Value → Option Value} (h : MpAt w b Kd f n) {t kt e : TypeId} (K : KeyIn P w kt Kd) (ht : P.underlying t = some (.map kt e)) {key : Value} (val : Value) (hkey : Kd key) :
  ∃ w' f', (Instr.mapUpdate t (.map (some b)) key val).run P w = .ok () w' ∧ MpAt w' b Kd f' (if (f key).isSome = true then n else n + 1) ∧ f' key = some val ∧ (∀ k, k ≠ key → f' k = f k) ∧ w.mapTurned w' b := by
 obtain ⟨es, clock, hb, h1, h2, h3, h4⟩ := h
 rcases K.find key hkey es.toList h2 with ⟨f1, f2⟩ | ⟨j, e0, f1, f2, f3⟩
 ·have hf : f key = none := by
   cases hfk : f key with
   | none => rfl
   | some v => obtain ⟨x, hx, hxk, _⟩ := (h4 key v).1 hfk; exact absurd hxk (f2 x hx)
  refine ⟨setBlock w b (.map (es.push ⟨key, val, clock⟩) (clock + 1)), fun k => (by classical exact if k = key then some val else f k), ?_, ⟨_, _, heap_setBlock_same hb _, stamped_push h1 f2, ?_, ?_, ?_⟩, by simp, fun k hk => by simp [hk], ⟨es, clock, _, _, hb, rfl⟩⟩
  ·simp [Instr.mapUpdate, run_underlying ht, MapKept.run_getObj_map hb, K.check _ _ hkey, f1, MapKept.run_setObj_map _ hb, Result.andThen, setBlock]
  ·intro x hx
   simp only [Array.toList_push, List.mem_append, List.mem_singleton] at hx
   rcases hx with hx | rfl
   ·exact h2 x hx
   ·exact hkey
  ·simp [hf, h3]
  ·intro k v
   simp only [Array.toList_push, List.mem_append, List.mem_singleton]
   by_cases hk : k = key
   ·subst hk
    simp only [if_true, Option.some.injEq]
    constructor
    ·rintro rfl; exact ⟨_, .inr rfl, rfl, rfl⟩
    ·rintro ⟨x, hx | rfl, hxk, hxv⟩
     ·exact absurd hxk (f2 x hx)
     ·exact hxv
   ·simp only [if_neg hk, h4]
    constructor
    ·rintro ⟨x, hx, r⟩; exact ⟨x, .inl hx, r⟩
    ·rintro ⟨x, hx | rfl, hxk, hxv⟩
     ·exact ⟨x, hx, hxk, hxv⟩
     ·exact absurd hxk.symm hk
 ·have hf : f key = some e0.val := (h4 key _).2 ⟨e0, List.mem_of_getElem? f2, f3, rfl⟩
  have hj : es[j]? = some e0 := by simpa using f2
  have hkeyf : ∀ e', es[j]? = some e' → ({ e' with key := key, val := val } : MapEntry).key = e'.key := fun e' he' => by rw [hj] at he'; cases he'; exact f3.symm
  have hm := mem_modify_iff h1 f2 key val f3
  refine ⟨setBlock w b (.map (es.modify j (fun e' => { e' with key := key, val := val })) clock), fun k => (by classical exact if k = key then some val else f k), ?_, ⟨_, _, heap_setBlock_same hb _, stamped_modify h1 _ _ (fun _ _ => rfl) (fun e' _ he' => hkeyf e' he'), ?_, ?_, ?_⟩, by simp, fun k hk => by simp [hk], ⟨es, clock, _, _, hb, rfl⟩⟩
  ·simp [Instr.mapUpdate, run_underlying ht, MapKept.run_getObj_map hb, K.check _ _ hkey, f1, hj, f3, K.stays _ hkey, MapKept.run_setObj_map _ hb, Result.andThen, setBlock]
  ·intro x hx
   rcases (hm x).1 hx with ⟨hx', _⟩ | rfl
   ·exact h2 x hx'
   ·exact hkey
  ·simp [hf, h3]
  ·intro k v
   by_cases hk : k = key
   ·subst hk
    simp only [if_true, Option.some.injEq]
    constructor
    ·rintro rfl; exact ⟨_, (hm _).2 (.inr rfl), rfl, rfl⟩
    ·rintro ⟨x, hx, hxk, hxv⟩
     rcases (hm x).1 hx with ⟨_, hx'⟩ | rfl
     ·exact absurd hxk hx'
     ·exact hxv
   ·simp only [if_neg hk, h4]
    constructor
    ·rintro ⟨x, hx, hxk, hxv⟩; exact ⟨x, (hm x).2 (.inl ⟨hx, by rw [hxk]; exact hk⟩), hxk, hxv⟩
    ·rintro ⟨x, hx, hxk, hxv⟩
     rcases (hm x).1 hx with ⟨hx', _⟩ | rfl
     ·exact ⟨x, hx', hxk, hxv⟩
     ·exact absurd hxk.symm hk
def ItAt (w : World) (b r : Nat) (Kd : Value → Prop) (f : Value → Option Value) (n : Nat) (dn : List Value) : Prop :=
 ∃ es clock since seen c0, w.heap[b]? = some (.map es clock) ∧ Stamped es clock ∧ (∀ e ∈ es.toList, Kd e.key) ∧ es.size = n ∧ (∀ k v, f k = some v ↔ ∃ e ∈ es.toList, e.key = k ∧ e.val = v) ∧
  w.heap[r]? = some (.mapIter (some b) since seen c0) ∧ (∀ x ∈ es.toList, x.born < since) ∧ since ≤ c0 ∧ since ≤ clock ∧ dn.Nodup ∧ (∀ x ∈ es.toList, seen.contains x.born = true ↔ x.key ∈ dn) ∧ ∀ k ∈ dn, ∃ v, f k = some v
theorem ItAt.map {w : World} {b r n : Nat} {Kd : Value → Prop} {f : Value → Option Value} {dn : List Value} (h : ItAt w b r Kd f n dn) : MpAt w b Kd f n := by
 obtain ⟨es, clock, since, seen, c0, hb, h1, h2, h3, h4, _⟩ := h
 exact ⟨es, clock, hb, h1, h2, h3, h4⟩
theorem ItAt.ne {w : World} {b r n : Nat} {Kd : Value → Prop} {f : Value → Option Value} {dn : List Value} (h : ItAt w b r Kd f n dn) : r ≠ b ∧ r < w.heap.size := by
 obtain ⟨es, clock, since, seen, c0, hb, _, _, _, _, hr, _⟩ := h
 refine ⟨fun e => ?_, lt_of_heap hr⟩
 rw [e, hb] at hr
 cases hr
theorem ItAt.keep {w w' : World} {b r n : Nat} {Kd Kd' : Value → Prop} {f : Value → Option Value} {dn : List Value} (h : ItAt w b r Kd f n dn) (hb : w'.heap[b]? = w.heap[b]?) (hr : w'.heap[r]? = w.heap[r]?) (hd : ∀ v, Kd v → Kd' v) : ItAt w' b r Kd' f n dn ∧ w'.rangeLeft b r = w.rangeLeft b r := by
 obtain ⟨es, clock, since, seen, c0, hb0, h1, h2, h3, h4, hr0, rest⟩ := h
 exact ⟨⟨es, clock, since, seen, c0, hb.trans hb0, h1, fun e he => hd _ (h2 e he), h3, h4, hr.trans hr0, rest⟩, by simp only [World.rangeLeft, hb, hr]⟩
theorem MpAt.range {P : Program} {w : World} {b n : Nat} {Kd : Value → Prop} {f : Value → Option Value} (h : MpAt w b Kd f n) {t kt e : TypeId} (ht : P.underlying t = some (.map kt e)) :
  ∃ w', (Instr.range t (.map (some b))).run P w = .ok (.pointer (some ⟨w.heap.size, 0, none⟩)) w' ∧ ItAt w' b w.heap.size Kd f n [] ∧ Below w.heap.size w w' ∧ w'.heap.size = w.heap.size + 1 := by
 have hlt := h.lt
 obtain ⟨es, clock, hb, h1, h2, h3, h4⟩ := h
 refine ⟨_, run_range_map w t kt e b es clock ht hb, ⟨es, clock, clock, #[], clock, ((MapKept.heap_alloc w _).2 b hlt).trans hb, h1, h2, h3, h4, (MapKept.heap_alloc w _).1, h1.1, Nat.le_refl _, Nat.le_refl _, List.nodup_nil, by simp, by simp⟩, (Below.refl _ w).alloc (Nat.le_refl _) _, by simp⟩
theorem ItAt.next {P : Program} {w : World} {b r n : Nat} {Kd : Value → Prop} {f : Value → Option Value} {dn : List Value} (h : ItAt w b r Kd f n dn) (ty : TypeId) :
  ((Instr.next (.pointer (some ⟨r, 0, none⟩)) false ty).run P w = .ok (.tuple #[.bool false]) w ∧ ∀ k v, f k = some v → k ∈ dn) ∨
  ∃ key v w', f key = some v ∧ key ∉ dn ∧ Kd key ∧ (Instr.next (.pointer (some ⟨r, 0, none⟩)) false ty).run P w = .ok (.tuple #[.bool true, key, v]) w' ∧ ItAt w' b r Kd f n (dn ++ [key]) ∧ w'.rangeLeft b r < w.rangeLeft b r ∧ w.grownBy w' (some r) ∧ w'.heap.size = w.heap.size ∧
   (Instr.entry (.pointer (some ⟨r, 0, none⟩))).run P w' = .ok (.tuple #[key, v]) w' := by
 have hne := h.ne
 obtain ⟨es, clock, since, seen, c0, hb, h1, h2, h3, h4, hr, hold, hsc, hsk, hnd, hs1, hs2⟩ := h
 rcases run_next_at (P := P) w ty r b since c0 seen es clock hr hb hold hsc with ⟨h0, hrun⟩ | ⟨e, he, w1, hal, hrun⟩
 ·refine .inl ⟨hrun, fun k v hkv => ?_⟩
  obtain ⟨x, hx, rfl, _⟩ := (h4 k v).1 hkv
  exact (hs1 x hx).1 (all_seen es seen h0 x hx)
 ·obtain ⟨hem, hes⟩ := mem_left he
  have hr1 : w1.heap[r]? = some (.mapIter (some b) since seen c0) := by rcases hal with rfl | rfl <;> exact hr
  have hb1 : w1.heap[b]? = some (.map es clock) := by rcases hal with rfl | rfl <;> exact hb
  have hset := heap_set (o' := .mapIter (some b) since (seen.push e.born) clock) hr1
  have hb' : (setBlock w1 r (.mapIter (some b) since (seen.push e.born) clock)).heap[b]? = some (.map es clock) := (hset.2 b (fun e1 => hne.1 e1.symm)).trans hb1
  have hfe : f e.key = some e.val := (h4 _ _).2 ⟨e, hem, rfl, rfl⟩
  have hnd' : e.key ∉ dn := fun hd => by rw [(hs1 e hem).2 hd] at hes; cases hes
  have hst := (stamped_iff es clock).1 h1
  refine .inr ⟨e.key, e.val, setBlock w1 r (.mapIter (some b) since (seen.push e.born) clock), hfe, hnd', h2 e hem, hrun,
   ⟨es, clock, since, seen.push e.born, clock, hb', h1, h2, h3, h4, hset.1, hold, hsk, hsk, List.nodup_append.2 ⟨hnd, by simp, fun a ha b' hb' => by simp only [List.mem_singleton] at hb'; subst hb'; exact fun q => hnd' (q ▸ ha)⟩, fun x hx => ?_, fun k hk => ?_⟩, ?_, ?_, ?_,
   run_entry_at _ r b since seen es clock e hset.1 hb' hem hst.2.1⟩
  ·rw [contains_push, List.mem_append, List.mem_singleton, Bool.or_eq_true, hs1 x hx, beq_iff_eq]
   constructor
   ·rintro (h | h)
    ·exact .inl h
    ·exact .inr (by rw [born_inj hst.2.1 hx hem h])
   ·rintro (h | h)
    ·exact .inl h
    ·exact .inr (by rw [entry_eq_of_key hst.2.2 hx hem h])
  ·rcases List.mem_append.1 hk with hk | hk
   ·exact hs2 k hk
   ·simp only [List.mem_singleton] at hk
    subst hk
    exact ⟨_, hfe⟩
  ·have e1 : (setBlock w1 r (.mapIter (some b) since (seen.push e.born) clock)).rangeLeft b r = (leftOf es (seen.push e.born)).size := by
    have : (setBlock w1 r (.mapIter (some b) since (seen.push e.born) clock)).heap[r]? = some (.mapIter (some b) since (seen.push e.born) clock) := hset.1
    simp only [World.rangeLeft, hb', this]
   have e2 : w.rangeLeft b r = (leftOf es seen).size := by simp only [World.rangeLeft, hb, hr]
   rw [e1, e2]
   exact left_shrinks es seen e he
  ·rcases hal with rfl | rfl <;> exact ⟨rfl, rfl, rfl, by simp [setBlock], fun i _ hi => hset.2 i (fun e1 => hi (by rw [e1]))⟩
  ·rcases hal with rfl | rfl <;> simp [setBlock]
section
variable {P : Program} (w : World) {ops : Array Oper} {rest : List Oper} {o : Oper} {a : Act} {Q : Exit → Act → World → Prop}
theorem wpList_mp_look (hg : o.guard = none) (m x : Operand) (t : TypeId) (c : Bool) (hop : o.op = Op.lookup t m x c) {kt e : TypeId} {Kd : Value → Prop} (K : KeyIn P w kt Kd) (ht : P.underlying t = some (.map kt e)) {z : Value} (hz : (zeroValue e).run P w = .ok z w) {b n : Nat} {f : Value → Option Value}
  (hm : a.eval m = .map (some b)) (h : MpAt w b Kd f n) (key : Value) (hx : a.eval x = key) (hkey : Kd key) (r : Value) (hr : (if c = true then .tuple #[(f key).getD z, .bool (f key).isSome] else (f key).getD z) = r)
  (hK : wpList P ops Q rest (a.put o.dst r) w) : wpList P ops Q (o :: rest) a w := by
 refine wpList_plain hg fun K' hK' => ?_
 have hrun := h.look K ht hz c hkey
 rw [hr] at hrun
 unfold Oper.wp
 simp [execOp, hop, hm, hx, hrun, Result.andThen]
 exact hK' _ _ hK
theorem wpList_mp_store (hg : o.guard = none) (m x v : Operand) (t : TypeId) (hop : o.op = Op.mapUpdate t m x v) {kt e : TypeId} {Kd : Value → Prop} (K : KeyIn P w kt Kd) (ht : P.underlying t = some (.map kt e)) {b n : Nat} {f : Value → Option Value}
  (hm : a.eval m = .map (some b)) (h : MpAt w b Kd f n) (key val : Value) (hx : a.eval x = key) (hv : a.eval v = val) (hkey : Kd key)
  (hK : ∀ w' f', MpAt w' b Kd f' (if (f key).isSome = true then n else n + 1) → f' key = some val → (∀ k, k ≠ key → f' k = f k) → w.mapTurned w' b → wpList P ops Q rest (a.put o.dst undef) w') :
  wpList P ops Q (o :: rest) a w := by
 refine wpList_plain hg fun K' hK' => ?_
 obtain ⟨w', f', hrun, r1, r2, r3, r4⟩ := h.store K ht val hkey
 unfold Oper.wp
 simp [execOp, hop, hm, hx, hv, hrun, Result.andThen]
 exact hK' _ _ (hK w' f' r1 r2 r3 r4)
theorem wpList_mp_range (hg : o.guard = none) (m : Operand) (t : TypeId) (hop : o.op = Op.range t m) {kt e : TypeId} (ht : P.underlying t = some (.map kt e)) {Kd : Value → Prop} {b n : Nat} {f : Value → Option Value} (hm : a.eval m = .map (some b)) (h : MpAt w b Kd f n)
  (hK : ∀ w', ItAt w' b w.heap.size Kd f n [] → Below w.heap.size w w' → w'.heap.size = w.heap.size + 1 → wpList P ops Q rest (a.put o.dst (.pointer (some ⟨w.heap.size, 0, none⟩))) w') :
  wpList P ops Q (o :: rest) a w := by
 refine wpList_plain hg fun K' hK' => ?_
 obtain ⟨w', hrun, r1, r2, r3⟩ := h.range (P := P) ht
 unfold Oper.wp
 simp [execOp, hop, hm, hrun, Result.andThen]
 exact hK' _ _ (hK w' r1 r2 r3)
theorem wpList_mp_next {α β : Type} (hg : o.guard = none) (it : Operand) (hop : o.op = Op.next it false) {Kd : Value → Prop} {b r n : Nat} {f : Value → Option Value} {dn : List Value} (mk : α → Value) (mv : β → Value) (hmk : ∀ k v, f k = some v → ∃ x y, k = mk x ∧ v = mv y)
  (hit : a.eval it = .pointer (some ⟨r, 0, none⟩)) (h : ItAt w b r Kd f n dn)
  (hDone : (∀ k v, f k = some v → k ∈ dn) → wpList P ops Q rest (a.put o.dst (.tuple #[.bool false])) w)
  (hMore : ∀ (x : α) (y : β) (w' : World), f (mk x) = some (mv y) → mk x ∉ dn → ItAt w' b r Kd f n (dn ++ [mk x]) → w'.rangeLeft b r < w.rangeLeft b r → w.grownBy w' (some r) → w'.heap.size = w.heap.size →
   (Instr.entry (.pointer (some ⟨r, 0, none⟩))).run P w' = .ok (.tuple #[mk x, mv y]) w' → wpList P ops Q rest (a.put o.dst (.tuple #[.bool true, mk x, mv y])) w') :
  wpList P ops Q (o :: rest) a w := by
 refine wpList_plain hg fun K' hK' => ?_
 unfold Oper.wp
 rcases h.next (P := P) o.type with ⟨hrun, hall⟩ | ⟨key, v, w', hf, hnd, hkd, hrun, hit', hlt, hgr, hsz, hen⟩
 ·simp [execOp, hop, hit, hrun, Result.andThen]
  exact hK' _ _ (hDone hall)
 ·obtain ⟨x, y, rfl, rfl⟩ := hmk key v hf
  simp [execOp, hop, hit, hrun, Result.andThen]
  exact hK' _ _ (hMore x y w' hf hnd hit' hlt hgr hsz hen)
end
end Go.Proofs.YtejdfpieblkapaaGreatDoor
