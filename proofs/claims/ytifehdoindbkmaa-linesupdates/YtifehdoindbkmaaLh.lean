/- What moved makes: where lines begin in an edited text. -/
import Derived.Test.YtifehdoindbkmaaLg
import Derived.Deep.RegionWith
import Derived.Laws.AppendOwnNone
import Derived.Deep.Onto
import Derived.Deep.DeepCutAuto
namespace Go.Proofs.Ytifehdoindbkmaa
open Go.RowKit Go.Shelf

attribute [local go_sem] Oper.semAt_some

/-- append onto a row of the call's own; the source lies at an address, or is nil. -/
theorem wpList_app_src {P : Program} {w : World} {ops : Array Oper} {rest : List Oper} {o : Oper} {a : Act} {Q : Exit → Act → World → Prop} (hgd : o.guard = none) (s x : Operand) (t : TypeId)
    (ho : o.op = .call { callee := .builtin .append, args := #[s, x], argTypes := #[t, t] }) (base : Nat) (e : TypeId) (i : TypeInfo) (z : Value) (ht : P.underlying t = some (.slice e)) (hi : P.info? e = some i) (hz : i.zero = some z)
    (hsize : i.size = 1) (hby : i.bytes = 8) (hzs : z.cells.size = 1) (v : Value) (n : Nat) (xs : List Value) (hs : a.eval s = v) (hown : w.ownsRow base e 1 v n xs)
    (A : Option Addr) (m c : Nat) (news : List Value) (hx : a.eval x = .slice A m c) (hsrc : (A = none ∧ m = 0 ∧ c = 0 ∧ news = []) ∨ ∃ ad, A = some ad ∧ ∀ j u, news[j]? = some u → w.cell? (ad.add j) = some u)
    (hl : news.length = m) (h1 : ∀ u ∈ news, u.oneCell' = true) (h63 : n + m ≤ 1000000000) (hbase : base ≤ w.heap.size)
    (h : ∀ v' w', w'.ownsRow base e 1 v' (n + m) (xs ++ news) → w.grownBy w' v.ownBlock → wpList P ops Q rest (a.put o.dst v') w') : wpList P ops Q (o :: rest) a w := by
  rcases hsrc with ⟨rfl, rfl, rfl, rfl⟩ | ⟨ad, rfl, hc⟩
  · exact wpList_append_own_none hgd s x t ho base e i 1 ht hi v n xs hs hown hx (h v w (by simpa using hown) (World.grownBy.refl w _))
  · exact wpList_append_own w hgd s x t ho base e i z 1 8 ht hi hz hsize hby hzs (by decide) v n xs hs hown ad m c news hx (by omega) hc h1 (by unfold maxLen; omega) (by omega) hbase fun v' w' h2 h3 _ => h v' w' h2 h3

theorem add_none' (g o j : Nat) : (⟨g, o, none⟩ : Addr).add j = ⟨g, o + j, none⟩ := by
  unfold Addr.add
  split
  · subst_vars; rfl
  · rfl

theorem XAt.src {w : World} {base X c : Nat} {s : ByteArray} {A : Option Addr} (h : XAt w base X s A c) (m : Nat) (hm : m ≤ (bgs s).length) : (A = none ∧ m = 0 ∧ c = 0 ∧ ((bgs s).take m).map (Value.int .i64) = []) ∨ ∃ ad, A = some ad ∧ ∀ j u, (((bgs s).take m).map (Value.int .i64))[j]? = some u → w.cell? (ad.add j) = some u := by
  rcases h.row.2 with ⟨e, hn⟩ | ⟨g, cap, cur, e, _, hg, _⟩
  · simp at e
    obtain ⟨rfl, _, rfl⟩ := e
    obtain rfl : m = 0 := by omega
    exact .inl ⟨rfl, rfl, rfl, by simp⟩
  · simp at e
    obtain ⟨rfl, rfl⟩ := e
    refine .inr ⟨_, rfl, ?_⟩
    intro j u hu
    rw [List.getElem?_map, Option.map_eq_some_iff] at hu
    obtain ⟨z, hz, rfl⟩ := hu
    rw [List.getElem?_take] at hz
    split at hz
    · obtain ⟨g', e', hc, _⟩ := h.at' hz
      simp at e'
      subst e'
      rw [add_none', Nat.zero_add]; exact hc
    · simp at hz

theorem XAt.behind {w : World} {base X c : Nat} {s : ByteArray} {A : Option Addr} (h : XAt w base X s A c) {m j : Nat} {z : Int} (hz : (bgs s)[m + j]? = some z) : ∃ g, (if c = m then A else Option.map (fun x => x.add m) A) = some ⟨g, m, none⟩ ∧ w.cell? ⟨g, m + j, none⟩ = some (.int .i64 z) ∧ g < w.heap.size := by
  obtain ⟨g, rfl, hc, hg⟩ := h.at' hz
  have hlt := (List.getElem?_eq_some_iff.1 hz).1
  have := h.caps.1
  refine ⟨g, ?_, hc, hg⟩
  rw [if_neg (by omega), Option.map_some, add_none', Nat.zero_add]

set_option maxRecDepth 100000 in
set_option maxHeartbeats 1000000 in
theorem moved_any (base X c p q : Nat) (s v : ByteArray) (A : Option Addr) (w : World) (hX : XAt w base X s A c) (hpq : p ≤ q) (hq : q ≤ s.size) (hs : s.size ≤ 100000) (hv : v.size ≤ 100000) :
    Calls Try.prog 20 #[.pointer (some ⟨X, 0, none⟩), .int .i64 p, .int .i64 q, .string v] w fun e w' => ∃ A' c', e = .returned (.slice A' (bgs (edT s v p q)).length c') ∧ w'.ownsRow w.heap.size 3 1 (.slice A' (bgs (edT s v p q)).length c') (bgs (edT s v p q)).length ((bgs (edT s v p q)).map (Value.int .i64)) ∧ Below w.heap.size w w' := by
  have hbl := bgs_len s
  have hlp := lnOf_le s (show p ≤ s.size by omega)
  have hlq := lnOf_le s hq
  obtain ⟨hc1, hc2⟩ := hX.caps
  have hX0 := hX.below ((Below.refl _ w).alloc (Nat.le_refl _) (.cells #[.int .i64 p] 3))
  have hB0 := Boxed.new w 3 (.int .i64 p)
  have hX0d : XAt (w.alloc (.cells #[.int .i64 p] 3)).drew base X s A c := ⟨hX0.blk, hX0.row⟩
  have c1 := hX0.c1
  have cb := hB0.cell
  have HXl := hX.lt
  have L1 := fun W (h : XAt W base X s A c) => lineAt_any base X c p s A W h (by omega) (by omega)
  have L2 := fun W (h : XAt W base X s A c) => lineAt_any base X c q s A W h (by omega) (by omega)
  obtain ⟨mp, hmp⟩ : ∃ m, m = lnOf s p := ⟨_, rfl⟩
  obtain ⟨mq, hmq⟩ : ∃ m, m = lnOf s q := ⟨_, rfl⟩
  rw [← hmp] at L1 hlp
  rw [← hmq] at L2 hlq
  have HMP := Lib.hid hmp; have HMQ := Lib.hid hmq
  obtain ⟨nb, hnb⟩ : ∃ n, n = (bgs s).length := ⟨_, rfl⟩
  rw [← hnb] at c1 hlp hlq hc1 hbl
  have HNB := Lib.hid hnb
  have HX := Lib.hid hX
  clear hmp hmq hnb hX
  obtain ⟨i0, hi0, hz0, hz1, hz2⟩ := info_parts Try.info3
  have HI := Lib.hid hi0
  have HZ0 := Lib.hid hz0
  have HZ1 := Lib.hid hz1
  have HZ2 := Lib.hid hz2
  clear hi0 hz0 hz1 hz2
  have i1 : (mp : Int) ≤ (c : Int) := by omega
  have i2 : (0 : Int) ≤ (mp : Int) := by omega
  have i3 : (mq : Int) ≤ (nb : Int) := by omega
  have i4 : (0 : Int) ≤ (mq : Int) := by omega
  have i5 : (nb : Int) ≤ (c : Int) := by omega
  refine (callsIn_wide (n := 4)).1 ?_
  refine callsIn_of_wp_marks Try.func20 rfl trivial ?_ rfl
  simp only [Try.ntmps20, List.size_toArray, List.length_cons, List.length_nil, Nat.reduceAdd, Nat.reduceSub, Array.replicate_succ, Array.replicate_zero, List.push_toArray, List.append_toArray, List.nil_append, List.cons_append]
  refine wpIn_wide.2 ?_
  go_wp2_with fail
  go_region_held3 (fun w' => w'.cell? ⟨X, 1, none⟩ = some (.slice A nb c) ∧ w'.cell? ⟨w.heap.size, 0, none⟩ = some (.int .i64 p))
    (first
      | go_keep
      | (go_split_ands; refine ⟨?_, ?_⟩ <;> (rw [hb6.cell (by first | (simp; done) | (simp; omega) | (have := hb5.size; simp at this ⊢; omega))]; rw [hb5.cell (by first | (simp; done) | (simp; omega))]; go_keep))
      | (go_split_ands; refine ⟨?_, ?_⟩ <;> (rw [hb5.cell (by first | (simp; done) | (simp; omega))]; go_keep)))
    (first
      | (go_at_call 17; (with_reducible refine (L1 (w.alloc (.cells #[.int .i64 p] 3)).drew hX0d).mono ?_); rintro e w5 ⟨rfl, hb5⟩)
      | (go_at_call 17; (with_reducible refine (L2 w5 (hX0d.below hb5)).mono ?_); rintro e w6 ⟨rfl, hb6⟩))
  rename_i hH6
  obtain ⟨-, hcb6⟩ := hH6
  have hX6 : XAt w6 base X s A c := (hX0d.below hb5).below hb6
  have hz5 := hb5.size
  simp at hz5
  have hz6 := hb6.size
  have hbw5 : Below w.heap.size w w5 := ((Below.refl _ w).alloc (Nat.le_refl _) (.cells #[.int .i64 p] 3)).drew.trans (hb5.mono (by simp))
  have hbw6 : Below w.heap.size w w6 := hbw5.trans (hb6.mono (by omega))
  have hB6 : Boxed w6 w.heap.size 3 (.int .i64 p) := (hb6.block _ (by omega)).trans ((hb5.block _ (by simp)).trans hB0)
  have HX6 := Lib.hid hX6; have HBW6 := Lib.hid hbw6; have HB6 := Lib.hid hB6
  have hz6w : w.heap.size + 1 ≤ w6.heap.size := by omega
  generalize hA2 : (if c = mq then A else Option.map (fun x => x.add mq) A) = A2
  generalize hc3 : c - mq = c2
  have HA2 := Lib.hid hA2; have HC2 := Lib.hid hc3
  clear hA2 hc3 hX6 hbw6 hB6 hbw5 hb5 hb6 hX0 hX0d hB0 c1 cb L1 L2
  go_wp2_with fail
  refine (Try.strings_Count_one v 10 w6).mono ?_
  rintro e w7 ⟨rfl, rfl⟩
  have hct : Lib.countByte v.data.toList 10 ≤ v.size := by unfold Lib.countByte; rw [Lib.size_eq]; exact List.count_le_length
  obtain ⟨ct, hcteq⟩ : ∃ m, m = Lib.countByte v.data.toList 10 := ⟨_, rfl⟩
  rw [← hcteq] at hct ⊢
  clear hcteq
  go_wp2_with (at_make; refine wpList_make_own _ rfl _ _ 43 rfl (w.heap.size + 1) 3 i0 _ 1 Try.underlying43 HI.out HZ0.out HZ1.out .i64 .i64 ((mp : Int) + ct + (nb - mq : Nat)) (mp + ct + (nb - mq)) rfl rfl (by omega) (by rw [HZ2.out]; omega) (by unfold maxLen; omega) (by omega) ?_)
  intro w8 hown8 hg8
  have hbw8 : Below w.heap.size w w8 := HBW6.out.grown hg8 (by omega) (fun g hg => by cases hg)
  have hz8 := hg8.size
  have HB8 := Lib.hid (HB6.out.kept hg8 (by simp))
  clear hcb6 HX6 HB6 HBW6
  have hw8 : w7.heap.size < w8.heap.size := (hown8.lt _ rfl).2
  have hl9 : ((bgs s).take mp).length = mp := by rw [List.length_take, ← HNB.out]; omega
  have HL9 := Lib.hid hl9
  clear hl9
  go_wp2_with (at_builtin; refine wpList_app_src rfl _ _ 43 rfl (w.heap.size + 1) 3 i0 (.int .i64 0) Try.underlying43 HI.out HZ0.out HZ1.out HZ2.out rfl (.slice (some ⟨w7.heap.size, 0, none⟩) 0 (mp + ct + (nb - mq))) 0 [] rfl (hown8.alloc _) A mp c (((bgs s).take mp).map (Value.int .i64)) rfl ((HX.out.below (hbw8.alloc (by omega) _)).src mp (by rw [← HNB.out]; omega)) (by rw [List.length_map]; exact HL9.out) (by intro u hu; obtain ⟨z, _, rfl⟩ := List.mem_map.1 hu; rfl) (by omega) (by simp; omega) ?_)
  intro v9 w9 hown9 hg9
  obtain ⟨A9, c9, rfl, hm9, hc9⟩ := own_form hown9
  have hbx0 := Boxed.new w8 43 (.slice (some ⟨w7.heap.size, 0, none⟩) 0 (mp + ct + (nb - mq)))
  have hbx9 : Boxed w9 w8.heap.size 43 (.slice (some ⟨w7.heap.size, 0, none⟩) 0 (mp + ct + (nb - mq))) := hbx0.kept hg9 (hbx0.not_row (by decide) (hown8.alloc _))
  have hB9 : Boxed w9 w.heap.size 3 (.int .i64 p) := (HB8.out.alloc _).kept hg9 (by simp [Value.ownBlock]; omega)
  have hz9 := hg9.size
  simp at hz9
  have hb9 : Below w.heap.size w w9 := (hbw8.alloc (by omega) _).grown hg9 (by simp; omega) (fun k hk => by simp [Value.ownBlock] at hk; omega)
  have hbx := hbx9.set (.slice A9 mp c9)
  have hB := hB9.other (B' := w8.heap.size) (by omega) (.slice A9 mp c9)
  have hrow : (w9.setCell ⟨w8.heap.size, 0, none⟩ (.slice A9 mp c9)).ownsRow (w.heap.size + 1) 3 1 (.slice A9 mp c9) mp (List.take mp (List.map (Value.int .i64) (bgs s))) := hown9.kept (grownBy_setCell' w9 w8.heap.size _) (.inr (hbx9.not_row (by decide) hown9).symm)
  have hbw : Below w.heap.size w (w9.setCell ⟨w8.heap.size, 0, none⟩ (.slice A9 mp c9)) := hb9.grown (grownBy_setCell' w9 w8.heap.size _) (by omega) (fun k hk => by cases hk; omega)
  have cx9 := hbx9.cell
  have fx9 := hbx9.frozen
  have HBX := Lib.hid hbx; have HB := Lib.hid hB; have HROW := Lib.hid hrow; have HBW := Lib.hid hbw
  clear hbx hB hrow hbw hbx9 hB9 hbx0 hb9 hg9 hown9 HB8 hbw8 hg8 hown8 HL9
  go_wp2_with fail
  obtain ⟨bx, hbxe⟩ : ∃ b, b = w8.heap.size := ⟨_, rfl⟩
  rw [← hbxe] at hz9 HBX HROW HBW HB cx9 fx9 hw8 ⊢
  clear hbxe
  have hz10 : (w9.setCell ⟨bx, 0, none⟩ (.slice A9 mp c9)).heap.size ≥ bx + 1 := by simp; omega
  obtain ⟨w10, hw10⟩ : ∃ W, W = w9.setCell ⟨bx, 0, none⟩ (.slice A9 mp c9) := ⟨_, rfl⟩
  rw [← hw10] at hz10 HBX HROW HBW HB ⊢
  clear hw10 cx9 fx9
  refine (newLines_any v w10).mono ?_
  rintro e w11 ⟨rfl, rfl⟩
  have hbn := (Boxed.new w10 9 (.string v)).cell
  go_wp2_with fail
  have hbl2 := bgs_len v
  refine (wpIn_wide (n := 4)).1 ?_
  refine wpIn_rangeFunc_ownG rfl (by decide) (gf := 24) (lb := #[.pointer (some ⟨w10.heap.size, 0, none⟩)]) rfl trivial (enters_of Try.func24 (by kernel_rfl) rfl)
    (nl_stops Fence.wide (4 - 1) trivial rfl (by decide) w10.heap.size v (by omega) _ (by simp) hbn) KeepB.trans (fun W l o o' _ ho hc _ => KeepB.put W l o o' ho hc) (Below.refl _ _) (fun _ => rfl)
    (fun pre W => (∃ u, Boxed W bx 43 u ∧ W.ownsRow (w.heap.size + 1) 3 1 u (mp + pre.length) (List.take mp (List.map (Value.int .i64) (bgs s)) ++ pre.map (fun z => Value.int .i64 (wrap64 ((p : Int) + z)))) ∧ True) ∧ Below (w.heap.size + 1) w10 W)
    (fun _ _ _ => False)
    (OwnFrom.and (Own.from (holdsRow_own (w.heap.size + 1) bx 43 3 1 (fun pre => mp + pre.length) (fun (pre : List Int) => List.take mp (List.map (Value.int .i64) (bgs s)) ++ pre.map (fun z => Value.int .i64 (wrap64 ((p : Int) + z)))) (fun _ _ => True)) _) (ownFrom_below (by omega) (by simp; omega)))
    (fun _ _ _ _ _ hs _ _ => hs)
    ⟨⟨_, HBX.out.alloc _, by simpa using HROW.out.alloc _, trivial⟩, (Below.refl _ w10).alloc (by omega) _⟩
    (fun x => { tmps := #[Value.pointer (some ⟨X, 0, none⟩), Value.int IntKind.i64 (p : Int), Value.int IntKind.i64 (q : Int), Value.string v, undef, Value.pointer (some ⟨w.heap.size, 0, none⟩), undef, undef, Value.slice none 0 0, Value.slice A mp c, Value.slice A2 (nb - mq) c2, Value.pointer (some ⟨bx, 0, none⟩), Value.int .i64 x, undef, undef, Value.pointer (some ⟨X, 0, none⟩), Value.pointer (some ⟨X, 0, none⟩), Value.pointer (some ⟨X, 1, none⟩), Value.slice A nb c, Value.pointer (some ⟨X, 0, none⟩), Value.int IntKind.i64 (p : Int), Value.int IntKind.i64 (mp : Int), Value.slice A mp c, Value.pointer (some ⟨X, 0, none⟩), Value.pointer (some ⟨X, 0, none⟩), Value.pointer (some ⟨X, 1, none⟩), Value.slice A nb c, Value.pointer (some ⟨X, 0, none⟩), Value.int IntKind.i64 (q : Int), Value.int IntKind.i64 (mq : Int), Value.slice A2 (nb - mq) c2, Value.slice A mp c, Value.int IntKind.i64 (mp : Int), Value.string v, Value.int IntKind.i64 (ct : Int), Value.int IntKind.i64 ((mp : Int) + (ct : Int)), Value.slice A2 (nb - mq) c2, Value.int IntKind.i64 ((nb - mq : Nat) : Int), Value.int IntKind.i64 ((mp : Int) + (ct : Int) + ((nb - mq : Nat) : Int)), Value.slice (some ⟨w7.heap.size, 0, none⟩) 0 (mp + ct + (nb - mq)), Value.slice (some ⟨w7.heap.size, 0, none⟩) 0 (mp + ct + (nb - mq)), Value.slice A mp c, Value.slice A9 mp c9, Value.string v, Value.func (Fn.func 24) #[] #[Value.pointer (some ⟨w10.heap.size, 0, none⟩)], Value.int .i64 x, undef, undef, undef, undef, undef, undef, undef, undef, undef, undef, undef, undef, undef, undef, undef, undef, undef, undef, undef, undef, undef, undef, undef, undef, undef], defers := [] }) ?assign ?body ?done ?stop
  case assign =>
    intro l x W K hK
    gi_wp2
    exact hK
  case stop =>
    rintro D c pre W _ _ h _
    exact h.elim
  case body =>
    rintro l pre x W ⟨⟨u, hu, hrow, _⟩, hB⟩ hlt
    have hcu := hu.cell
    have hcp : W.cell? ⟨w.heap.size, 0, none⟩ = some (.int .i64 p) := (hB.cell (p := ⟨w.heap.size, 0, none⟩) (by simp)).trans HB.out.cell
    have hzW := hB.size
    have hlt' : pre.length < v.size := by unfold bgs at hbl2; omega
    gi_wp2_with (gi_at_builtin; refine wpListIn_append_own _ rfl _ _ 43 rfl (w.heap.size + 1) 3 i0 (.int .i64 0) 1 8 Try.underlying43 HI.out HZ0.out HZ1.out HZ2.out rfl (by decide) _ _ _ rfl (hrow.alloc _) ⟨W.heap.size, 0, none⟩ 1 1 [.int .i64 (wrap64 ((p : Int) + x))] rfl rfl (cell_one_new _ _ _) (by simp [Value.oneCell']) (by unfold maxLen; omega) (by omega) (by simp; omega) ?_; intro v' w1 hown' hgrow _; obtain ⟨g', cap', rfl⟩ := ownsRow_succ hown'; obtain ⟨hv1, hv2, hr2, hk2, hb2⟩ := hu.appended (by decide) hrow (by omega) (by omega) hown' hgrow; have hc1 := hv1.cell; have hf1 := hv1.frozen)
    exact ⟨hk2.from _, keepB_app _ hrow ⟨_, hu⟩ hgrow, ⟨_, hv2, by simpa [List.append_assoc, Nat.add_assoc] using hr2, trivial⟩, hB.trans hb2⟩
  case done =>
    rintro D ys W hD rfl ⟨⟨u, hu, hrow, _⟩, hB⟩ hK
    have hzW := hB.size
    have hls : (nls v.data.toList v.size).map (fun z => Value.int .i64 (wrap64 ((p : Int) + z))) = ((bgs v).map ((p : Int) + ·)).map (Value.int .i64) := by
      rw [List.map_map]
      apply List.map_congr_left
      intro z hz
      obtain ⟨i, hi, e⟩ := List.mem_filterMap.1 hz
      have hi' := List.mem_range.1 hi
      simp only [Function.comp]
      have e2 : wrap64 ((p : Int) + z) = (p : Int) + z := by
        split at e <;> simp at e
        unfold wrap64; omega
      rw [e2]
    rw [hls] at hrow
    have hlb : (nls v.data.toList v.size).length = (bgs v).length := rfl
    rw [hlb] at hrow
    clear hls hlb
    obtain ⟨A10, c10, rfl, hm10, hc10⟩ := own_form hrow
    have HU := Lib.hid hu; have HR := Lib.hid hrow; have HBB := Lib.hid hB; have HK := Lib.hid hK
    clear hu hrow hB hK hbn HBX HROW
    go_wp2_with fail
    obtain ⟨M, hM⟩ : ∃ M, M = mp + (bgs v).length := ⟨_, rfl⟩
    obtain ⟨PRE, hPRE⟩ : ∃ L, L = List.take mp (List.map (Value.int .i64) (bgs s)) ++ List.map (Value.int .i64) (List.map (fun x => (p : Int) + x) (bgs v)) := ⟨_, rfl⟩
    rw [← hM] at HU HR hm10
    rw [← hPRE] at HR
    have HPRE := Lib.hid hPRE; have HMM := Lib.hid hM
    have hMb : M ≤ 200000 := by omega
    clear hPRE hM hm10
    go_loopw [54] (fun i wr => ∃ (k : Nat) (A' : Option Addr) (c' : Nat), i = .int .i64 k ∧ k ≤ nb - mq ∧ Hid (Boxed wr bx 43 (.slice A' (M + k) c')) ∧ Hid (wr.ownsRow (w.heap.size + 1) 3 1 (.slice A' (M + k) c') (M + k) (PRE ++ ((((bgs s).drop mq).take k).map fun z => z - ((q : Int) - p) + v.size).map (Value.int .i64))) ∧ Hid (Below (w.heap.size + 1) w10 wr) ∧ Hid (wr.heap[D]? = some (.deferred (some [])))) (fun i _ => nb - mq - (intOf i).toNat)
    case atStart => exact ⟨0, A10, c10, rfl, Nat.zero_le _, HU, Lib.hid (by simpa using HR.out), HBB, HK⟩
    case round =>
      clear HU HR HBB HK
      obtain ⟨k, A', c', rfl, hk, HU, HR, HBB, HK⟩ := hrel
      by_cases hlt : k < nb - mq
      · obtain ⟨z, hz⟩ : ∃ z, (bgs s)[mq + k]? = some z := ⟨_, List.getElem?_eq_getElem (by rw [← HNB.out]; omega)⟩
        have hzb : 0 ≤ z ∧ z ≤ (s.size : Int) := by
          obtain ⟨i, hi, e⟩ := List.mem_filterMap.1 (List.mem_of_getElem? hz)
          have hi' := List.mem_range.1 hi
          split at e <;> simp at e
          omega
        obtain ⟨hz0, hz1⟩ := hzb
        have hbw : Below w.heap.size w wr := HBW.out.trans (HBB.out.mono (by omega))
        obtain ⟨g, hA2, hcz, hg⟩ := (HX.out.below hbw).behind hz
        rw [HA2.out] at hA2
        have hA2' := HA2.out
        subst hA2
        have HZ := Lib.hid hz
        have hcu := HU.out.cell
        have hcp : wr.cell? ⟨w.heap.size, 0, none⟩ = some (.int .i64 p) := (HBB.out.cell (p := ⟨w.heap.size, 0, none⟩) (by simp)).trans HB.out.cell
        have hzr := HBB.out.size
        clear hz hA2' HA2 hbw
        go_wp2_with (at_builtin; refine wpList_append_own _ rfl _ _ 43 rfl (w.heap.size + 1) 3 i0 (.int .i64 0) 1 8 Try.underlying43 HI.out HZ0.out HZ1.out HZ2.out rfl (by decide) _ _ _ rfl (HR.out.alloc _) ⟨wr.heap.size, 0, none⟩ 1 1 [.int .i64 (z - ((q : Int) - p) + v.size)] rfl rfl (cell_one_new _ _ _) (by simp [Value.oneCell']) (by unfold maxLen; omega) (by omega) (by simp; omega) ?_; intro v' w1 hown' hgrow _; obtain ⟨A11, c11, rfl, hm11, hc11⟩ := own_form hown'; obtain ⟨hv1, hv2, hr2, hk2, hb2⟩ := HU.out.appended (by decide) HR.out (by omega) (by omega) hown' hgrow; have hx1 := hv1.cell; have hf1 := hv1.frozen; clear hv1 hown' hgrow)
        have htk : ((bgs s).drop mq).take (k + 1) = ((bgs s).drop mq).take k ++ [z] := by
          rw [List.take_add_one, List.getElem?_drop, HZ.out]; rfl
        refine ⟨⟨k + 1, A11, c11, by simp, by omega, Lib.hid hv2, Lib.hid ?_, Lib.hid (HBB.out.trans hb2), Lib.hid (hk2.same D _ HK.out rfl)⟩, by simp [intOf]; omega⟩
        rw [htk]
        simpa [List.append_assoc, Nat.add_assoc] using hr2
      · obtain rfl : k = nb - mq := by omega
        have hcu := HU.out.cell
        have hzr := HBB.out.size
        go_wp2_with fail
        have hE := bgs_ed s v hpq hq
        rw [← HMP.out, ← HMQ.out] at hE
        have hlen : (bgs (edT s v p q)).length = M + (nb - mq) := by
          rw [hE, HMM.out, List.length_append, List.length_append, List.length_map, List.length_map, List.length_take, List.length_drop, ← HNB.out]; omega
        have hlist : (bgs (edT s v p q)).map (Value.int .i64) = PRE ++ ((((bgs s).drop mq).take (nb - mq)).map fun z => z - ((q : Int) - p) + v.size).map (Value.int .i64) := by
          rw [hE, HPRE.out, List.take_of_length_le (i := nb - mq) (by rw [List.length_drop, ← HNB.out]; omega), List.map_append, List.map_append, List.append_assoc, List.map_take]
        rw [hlen, hlist]
        refine ⟨by simp, .inl ⟨_, _, rfl, run_takeDeferred HK.out, ?_⟩⟩
        exact ⟨_, results_tmp rfl _ _ _, A', c', rfl, (ownsRow_putObj HR.out _ HK.out rfl).mono (by omega), (HBW.out.trans (HBB.out.mono (by omega))).trans (belowK_b (w := w) (Nat.le_refl _) wr D _ _ (by simp at hD; omega) HK.out rfl rfl)⟩
end Go.Proofs.Ytifehdoindbkmaa
