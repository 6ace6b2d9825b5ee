/- The reader of runs, whose bytes are dropped. -/
import Derived.Test.YtpifobaejmfppaaV
namespace Go.Proofs.Ytpifobaejmfppaa
open Go.RowKit

theorem handrel_drop {base Bs Bo Bw Bk Bp Br : Nat} {s : ByteArray} {C1 : List UInt8} {k n nl : Nat} {r : Rn} {t : List Rn} {o g oo cr nq : Nat} {wr w5 : World} {out : List Ed} {wi : List UInt8} {kept : Int} {A : Option Addr} {c : Nat}
    (h1 : CSt base Bs Bo Bw Bk s out n wi kept A c (wr.alloc (.cells #[.string r.x, .bool r.kept, .int .i64 r.f] 80))) (h2 : One (wr.alloc (.cells #[.string r.x, .bool r.kept, .int .i64 r.f] 80)) Bp 71 (pdVal Bs Bo Bw Bk)) (h3 : w5.heap[Br]? = some (.cells #[.slice (some ⟨g, oo, none⟩) nl cr, .int .i64 o] 85 (0, 0))) (h4 : w5.heap[wr.heap.size]? = some (.cells #[.string r.x, .bool r.kept, .int .i64 r.f] 80 (0, 0)))
    (h5 : RnsS wr (some ⟨g, oo, none⟩) (r :: t)) (h6 : GS s.data.toList C1 out wi kept) (h7 : rnOK s.data.toList kept (cutL (r :: t) o)) (hko : o + k ≤ r.x.size)
    (hb5 : Below (((wr.alloc (.cells #[.string r.x, .bool r.kept, .int .i64 r.f] 80)).drewN nq).drew).heap.size (((wr.alloc (.cells #[.string r.x, .bool r.kept, .int .i64 r.f] 80)).drewN nq).drew) w5) (hb : base ≤ wr.heap.size) :
    HandRel base Bs Bo Bw Bk Bp Br s C1 [] k n nl r t o g oo cr (Value.slice A n c).ownBlock wr w5 := by
  have hb5' : Below (wr.alloc (.cells #[.string r.x, .bool r.kept, .int .i64 r.f] 80)).heap.size (wr.alloc (.cells #[.string r.x, .bool r.kept, .int .i64 r.f] 80)) w5 := ⟨hb5.os, hb5.tape, hb5.output, hb5.size, hb5.block⟩
  have hk : ∀ row, Kp [Bo, Bw, Bk] row wr w5 := fun row => ((Kp.refl _ _ _).alloc _).trans ((Kp.of_below hb5' row).more (by simp)) (.inl rfl)
  have hrs := (rns_alloc h5 (.cells #[.string r.x, .bool r.kept, .int .i64 r.f] 80)).keep (w' := w5) fun q cur fz hq => (hb5'.block q (lt_of_heap hq)).trans hq
  refine ⟨out, n, wi, kept, A, c, h1.same hb5', (hb5'.block _ h2.lt).trans h2, h3, h4, hrs, by simpa using h6, ?_, ?_, by omega, ((Below.refl base wr).alloc hb _).trans (hb5'.mono (by simp; omega)), hk _, .inl rfl⟩
  · cases hkk : r.kept with
    | true =>
      obtain ⟨a1, a2, a3, a4, a5, a6, a7⟩ := rn_step_ok (k := k) h7 hko hkk
      exact rnOK_weak (by omega) a6
    | false => exact (rn_step_no (o' := o + k) h7 hkk).1
  · intro he
    cases hkk : r.kept with
    | true =>
      obtain ⟨a1, a2, a3, a4, a5, a6, a7⟩ := rn_step_ok (k := k) h7 hko hkk
      exact rnOK_weak (by omega) (a7 he)
    | false => exact (rn_step_no (o' := o + k) h7 hkk).2

theorem read_finD {base Bs Bo Bw Bk Bp Br : Nat} {s : ByteArray} {C R : List UInt8} {N m0 m k : Nat} {row0 rowA : Option Nat} {w0 wr wc wf : World} {out' : List Ed} {n' : Nat} {wi' : List UInt8} {kept' : Int} {A' : Option Addr} {c' : Nat} {L' : List Rn} {nl' o' : Nat} {Ar' : Option Addr} {cr' : Nat} {p q : Value}
    (hm : m ≤ m0) (hk : k ≤ m) (h1 : CSt base Bs Bo Bw Bk s out' n' wi' kept' A' c' wc) (h2 : One wc Bp 71 (pdVal Bs Bo Bw Bk)) (hbr : wc.heap[Br]? = some (.cells #[p, q] 85 (0, 0))) (hag : ∀ k, k ≠ Br → wf.heap[k]? = wc.heap[k]?) (hsz : wf.heap.size = wc.heap.size) (hblk : wf.heap[Br]? = some (.cells #[.slice Ar' nl' cr', .int .i64 o'] 85 (0, 0)))
    (hlen : L'.length = nl') (hcap : nl' ≤ cr') (hmx : cr' ≤ 9223372036854775807) (hrs : RnsS wc Ar' L') (hoff : ∀ r t, L' = r :: t → o' ≤ r.x.size) (hbd : ∀ r ∈ L', r.x.size ≤ 1099511627776 ∧ 0 ≤ r.f ∧ r.f ≤ 1099511627776)
    (h4 : GS s.data.toList C out' wi' kept') (h5 : rnOK s.data.toList kept' (cutL L' o')) (h6 : rem_ L' o' = (R.drop (m0 - m)).drop k) (h7 : n' + nl' ≤ N + 1) (h8 : k < m → n' + nl' ≤ N)
    (hb : Below base w0 wr) (hb' : Below base wr wc) (hkp : Kp [Bo, Bw, Bk, Br] row0 w0 wr) (hkp' : Kp [Bo, Bw, Bk] rowA wr wc) (hr : RowNext w0 row0 rowA) (hr' : RowNext wr rowA (Value.slice A' n' c').ownBlock) (hbB : base ≤ Br) (hfs : ∃ f, wf.os = wc.os ∧ wf.tape = wc.tape ∧ wf.output = f ∧ f = wc.output) :
    RSt base Bs Bo Bw Bk Bp Br s C (R.drop (m0 - (m - k))) (N + 1) row0 w0 wf ∧ (0 < m - k → RSt base Bs Bo Bw Bk Bp Br s C (R.drop (m0 - (m - k))) N row0 w0 wf) := by
  have hrs' : RnsS wf Ar' L' := hrs.keep fun g cur fz hg => (hag g (by rintro rfl; rw [hbr] at hg; injection hg with hg; injection hg with _ h2; exact absurd h2 (by decide))).trans hg
  obtain ⟨f, f1, f2, f3, f4⟩ := hfs
  have hbf : Below base wc wf := ⟨f1, f2, f3.trans f4, by omega, fun i hi => hag i (by omega)⟩
  have hkf : ∀ row, Kp [Bo, Bw, Bk, Br] row wc wf := fun row => ⟨by omega, fun i o hi hx _ _ => (hag i (fun e => hx (by simp [e]))).trans hi⟩
  have hk2 : Kp [Bo, Bw, Bk, Br] rowA wr wf := (hkp'.more (by simp)).trans (hkf _) (.inl rfl)
  have e2 : R.drop (m0 - (m - k)) = (R.drop (m0 - m)).drop k := by
    rw [show m0 - (m - k) = (m0 - m) + k by omega, List.drop_drop]
  rw [e2]
  have g1 := h1.other hbr hag hsz
  have g2 : One wf Bp 71 (pdVal Bs Bo Bw Bk) := (hag Bp (blk_ne_one h2 hbr)).trans h2
  exact ⟨⟨out', n', wi', kept', A', c', L', nl', o', Ar', cr', g1, g2, ⟨hblk, hlen, hcap, hmx, hrs', hoff, hbd⟩, h4, h5, h6, h7, hb.trans (hb'.trans hbf), hkp.trans hk2 hr, hr.trans hr' hkp.1⟩, fun h0 => ⟨out', n', wi', kept', A', c', L', nl', o', Ar', cr', g1, g2, ⟨hblk, hlen, hcap, hmx, hrs', hoff, hbd⟩, h4, h5, h6, h8 (by omega), hb.trans (hb'.trans hbf), hkp.trans hk2 hr, hr.trans hr' hkp.1⟩⟩

/-- The loop's relation. -/
def RLoopD (base Bs Bo Bw Bk Bp Br : Nat) (s : ByteArray) (C R : List UInt8) (N m0 : Nat) (row0 : Option Nat) (w0 : World) (i : Value) (wr : World) : Prop :=
  ∃ m : Nat, m ≤ m0 ∧ i = .int .i64 m ∧ RSt base Bs Bo Bw Bk Bp Br s C (R.drop (m0 - m)) (N + 1) row0 w0 wr ∧ (0 < m → RSt base Bs Bo Bw Bk Bp Br s C (R.drop (m0 - m)) N row0 w0 wr)

set_option maxRecDepth 100000 in
set_option maxHeartbeats 4000000 in
theorem read_drop (base Bs Bo Bw Bk Bp Br : Nat) (s : ByteArray) (C R : List UInt8) (N m0 : Nat) (row0 : Option Nat) (w0 w : World) (h : RSt base Bs Bo Bw Bk Bp Br s C R N row0 w0 w) (hm : m0 ≤ R.length) (hm1 : m0 ≤ 1099511627776) (hBr : base ≤ Br) :
    Calls Try.prog 52 #[.pointer (some ⟨Br, 0, none⟩), .int .i64 m0, .func (.func 53) #[] #[]] w fun e w' => e = .returned (.tuple #[]) ∧ RSt base Bs Bo Bw Bk Bp Br s C (R.drop m0) (N + 1) row0 w0 w' := by
  have H := Lib.hid h
  clear h
  go_enter Try.func52, Try.ntmps52
  go_wp2_with fail
  go_loopw [1] (fun i wr => Hid (RLoopD base Bs Bo Bw Bk Bp Br s C R N m0 row0 w0 i wr)) (fun i wr => (intOf i).toNat + lenAt Br wr)
  case atStart =>
    refine ⟨m0, Nat.le_refl _, rfl, ?_, fun _ => ?_⟩
    · rw [Nat.sub_self, List.drop_zero]
      obtain ⟨out, n, wi, kept, A, c, L, nl, o, Ar, cr, a1, a2, a3, a4, a5, a6, a7, a8⟩ := H.out
      exact ⟨out, n, wi, kept, A, c, L, nl, o, Ar, cr, a1, a2, a3, a4, a5, a6, by omega, a8⟩
    · rw [Nat.sub_self, List.drop_zero]; exact H.out
  case round =>
    obtain ⟨m, hmm, rfl, HS1, HS⟩ := hrel.out
    clear hrel
    rcases Nat.eq_zero_or_pos m with h0 | h0
    · subst h0
      have HF := Lib.hid HS1
      clear HS HS1
      go_wp2
      go_end0
      have := HF.out
      rw [Nat.sub_zero] at this
      exact ⟨rfl, this⟩
    · obtain ⟨out, n, wi, kept, A, c, L, nl, o, Ar, cr, hcs, hop, hrd, hgs, hok, hrem, hnn, hbl, hkp, hrow⟩ := HS h0
      clear HS HS1
      -- there is a run
      have hRl : (R.drop (m0 - m)).length = R.length - (m0 - m) := List.length_drop ..
      obtain ⟨r, t, hL⟩ : ∃ r t, L = r :: t := by
        cases L with
        | nil => exfalso; rw [← hrem] at hRl; simp [rem_] at hRl; omega
        | cons r t => exact ⟨r, t, rfl⟩
      subst hL
      have ho := hrd.off r t rfl
      have hnl : nl = t.length + 1 := by rw [← hrd.len]; rfl
      obtain ⟨g, oo, cur, fz, hAr, hg, hcur⟩ := hrd.rns (by simp)
      obtain ⟨e0, e1, e2⟩ := hcur 0 r rfl
      rw [Nat.zero_mul, Nat.add_zero] at e0 e1 e2
      have cb0 : wr.cell? ⟨Br, 0, none⟩ = some (.slice Ar nl cr) := by rw [Lib.cell_of_heap hrd.blk]; rfl
      have cb1 : wr.cell? ⟨Br, 1, none⟩ = some (.int .i64 o) := by rw [Lib.cell_of_heap hrd.blk]; rfl
      have fb0 : wr.frozen? ⟨Br, 0, none⟩ = false := Lib.frozen_of_heap hrd.blk 0
      have fb1 : wr.frozen? ⟨Br, 1, none⟩ = false := Lib.frozen_of_heap hrd.blk 1
      have hBl := lt_of_heap hrd.blk
      have cg0 : wr.cell? ⟨g, oo, none⟩ = some (.string r.x) := by rw [Lib.cell_of_heap hg]; exact e0
      have cg1 : wr.cell? ⟨g, oo + 1, none⟩ = some (.bool r.kept) := by rw [Lib.cell_of_heap hg]; exact e1
      have cg2 : wr.cell? ⟨g, oo + 2, none⟩ = some (.int .i64 r.f) := by rw [Lib.cell_of_heap hg]; exact e2
      subst hAr
      obtain ⟨hrx, hrf0, hrf1⟩ := hrd.bd r (by simp)
      obtain ⟨d, hd⟩ : ∃ d, d = r.x.size - o := ⟨_, rfl⟩
      obtain ⟨k, hkd⟩ : ∃ k, k = min m d := ⟨_, rfl⟩
      have hkm : k ≤ m := by omega
      have hko : o + k ≤ r.x.size := by omega
      have HKX := Lib.hid (show k < m → o + k = r.x.size by omega)
      have p1 : IntKind.i64.wrap ((r.x.size : Int) - (o : Int)) = (d : Int) := by rw [IntWalk.i64_in _ (by omega)]; omega
      have p2 : min (m : Int) (d : Int) = (k : Int) := by omega
      have P1 := Lib.hid p1; have P2 := Lib.hid p2
      clear hd hkd p1 p2
      have HCS := Lib.hid hcs; have HOP := Lib.hid hop; have HRD := Lib.hid hrd; have HGS := Lib.hid hgs; have HOK := Lib.hid hok; have HREM := Lib.hid hrem; have HBL := Lib.hid hbl; have HKP := Lib.hid hkp; have HRW := Lib.hid hrow; have HNL := Lib.hid hnl
      have hnl1 : 0 < nl := by omega
      have hnl2 : (0 : Int) < nl := by omega
      clear hcs hop hrd hgs hok hrem hbl hkp hrow hcur hg e0 e1 e2 hRl hnl
      go_wp2_with fail
      have p1 := P1.out
      have p2 := P2.out
      go_quiet (fail)
      clear p1 p2 P1 P2
      have hcs1 := HCS.out.same (((Below.refl _ wr).alloc (Nat.le_refl _) (.cells #[.string r.x, .bool r.kept, .int .i64 r.f] 80)))
      have hbx := heap_alloc_new wr (.cells #[.string r.x, .bool r.kept, .int .i64 r.f] 80)
      have hop1 : One (wr.alloc (.cells #[.string r.x, .bool r.kept, .int .i64 r.f] 80)) Bp 71 (pdVal Bs Bo Bw Bk) := (Below.heap_alloc wr _ Bp HOP.out.lt).trans HOP.out
      have hrb1 := (Below.heap_alloc wr (.cells #[.string r.x, .bool r.kept, .int .i64 r.f] 80) Br hBl).trans HRD.out.blk
      have HCS1 := Lib.hid hcs1; have HBX := Lib.hid hbx; have HOP1 := Lib.hid hop1; have HRB1 := Lib.hid hrb1
      clear hcs1 hbx hop1 hrb1
      go_upto_if 27 with fail
      go_cut [] (fun wx => Hid (HandRel base Bs Bo Bw Bk Bp Br s C [] k n nl r t o g oo cr (Value.slice A n c).ownBlock wr wx))
      case first =>
        rcases Nat.eq_zero_or_pos k with hk0 | hk0
        · subst hk0
          go_wp2_with fail
          go_meet
          exact handrel_none (R1 := []) HCS1.out HOP1.out HRB1.out HBX.out HRD.out.rns HGS.out HOK.out ho HCS.out.b3
        · have v1 : IntKind.i64.wrap ((o : Int) + (k : Int)) = (o : Int) + (k : Int) := IntWalk.i64_in _ (by omega)
          have v2 : IntKind.i64.wrap (r.f + (o : Int)) = r.f + (o : Int) := IntWalk.i64_in _ (by omega)
          have v3 : (o : Int) ≤ (o : Int) + (k : Int) := by omega
          have v4 : (o : Int) + (k : Int) ≤ (r.x.size : Int) := by omega
          have v5 : ((o : Int) + (k : Int)).toNat = o + k := by omega
          have v6 : (0 : Int) ≤ (o : Int) := by omega
          have v7 : (0 : Int) ≤ (o : Int) + (k : Int) := by omega
          have v8 : (0 : Int) ≤ (k : Int) := by omega
          have hne := Lib.hid (own_ne_blk HCS1.out.own HRB1.out (by decide))
          have hne2 := Lib.hid (show some wr.heap.size ≠ (Value.slice A n c).ownBlock from fun e => by have := (HCS.out.own.lt _ e.symm).2; omega)
          have w1 := blk_ne_one HCS1.out.ho HRB1.out
          have w2 := blk_ne_one HCS1.out.hk HRB1.out
          have w3 : Bw ≠ Br := by
            obtain ⟨pp, vv, hb', _⟩ := isb_block HCS1.out.hw
            rintro rfl
            rw [HRB1.out] at hb'
            injection hb' with hb'
            injection hb' with _ h2
            exact absurd h2 (by decide)
          have w4 := HCS.out.ho.lt
          have w5' := HCS.out.hk.lt
          have w6 : Bw < wr.heap.size := by obtain ⟨pp, vv, hb', _⟩ := isb_block HCS.out.hw; exact lt_of_heap hb'
          go_wp2_with fail
          go_region_held3 (fun w' => w'.cell? ⟨wr.heap.size, 0, none⟩ = some (.string r.x) ∧ w'.cell? ⟨wr.heap.size, 1, none⟩ = some (.bool r.kept) ∧ w'.cell? ⟨wr.heap.size, 2, none⟩ = some (.int .i64 r.f) ∧ w'.cell? ⟨Br, 1, none⟩ = some (.int .i64 o))
            (first
              | go_keep
              | exact ⟨by rw [Lib.cell_of_heap bx5]; rfl, by rw [Lib.cell_of_heap bx5]; rfl, by rw [Lib.cell_of_heap bx5]; rfl, by rw [Lib.cell_of_heap rb5]; rfl⟩)
            (first
              | (go_at_call 53; refine (drop_any (r.x.extract o (o + k)) r.kept (r.f + (o : Int)) _).mono ?_; rintro e' w5 ⟨rfl, hb5⟩; have bx5 : w5.heap[wr.heap.size]? = some (.cells #[.string r.x, .bool r.kept, .int .i64 r.f] 80 (0, 0)) := (hb5.block wr.heap.size (by simp)).trans HBX.out; have rb5 : w5.heap[Br]? = some (.cells #[.slice (some ⟨g, oo, none⟩) nl cr, .int .i64 o] 85 (0, 0)) := (hb5.block Br (by simp; omega)).trans HRB1.out))
          go_wp2_with fail
          go_meet
          exact handrel_drop HCS1.out HOP1.out rb5 bx5 HRD.out.rns HGS.out HOK.out hko hb5 HCS.out.b3
      case rest =>
        obtain ⟨out', n', wi', kept', A', c', hc5, hp5, rb5, bx5, hrs5, hgs5, hok5, hok6, hn5, hb5, hk5, hr5⟩ := hcut.out
        clear hcut
        have cc1 : wc.cell? ⟨Br, 1, none⟩ = some (.int .i64 o) := by rw [Lib.cell_of_heap rb5]; rfl
        have cc0 : wc.cell? ⟨Br, 0, none⟩ = some (.slice (some ⟨g, oo, none⟩) nl cr) := by rw [Lib.cell_of_heap rb5]; rfl
        have ff0 : wc.frozen? ⟨Br, 0, none⟩ = false := Lib.frozen_of_heap rb5 0
        have ff1 : wc.frozen? ⟨Br, 1, none⟩ = false := Lib.frozen_of_heap rb5 1
        have cx0 : wc.cell? ⟨wr.heap.size, 0, none⟩ = some (.string r.x) := by rw [Lib.cell_of_heap bx5]; rfl
        have hne5 : wr.heap.size ≠ Br := by omega
        have HFA := Lib.hid (And.intro hc5 (And.intro hp5 (And.intro rb5 (And.intro hrs5 (And.intro hgs5 (And.intro hok5 (And.intro hok6 (And.intro hb5 (And.intro hk5 hr5)))))))))
        clear hc5 hp5 rb5 bx5 hrs5 hgs5 hok5 hok6 hb5 hk5 hr5
        have v1 : IntKind.i64.wrap ((o : Int) + (k : Int)) = (o : Int) + (k : Int) := IntWalk.i64_in _ (by omega)
        clear cb0 cb1 fb0 fb1 cg0 cg1 cg2
        by_cases hend : o + k = r.x.size
        · have q1 : ((o : Int) + (k : Int) == (r.x.size : Int)) = true := by rw [beq_iff_eq]; omega
          have HEN := Lib.hid hend; clear hend
          go_wp2_with fail
          go_quiet (fail)
          clear v1
          by_cases hc1 : cr = 1
          · subst hc1
            go_wp2
            have hnl0 := HNL.out
            have hcap := HRD.out.cap
            have ht0 : t = [] := List.eq_nil_of_length_eq_zero (by omega)
            obtain ⟨hc5, hp5, rb5, hrs5, hgs5, hok5, hok6, hb5, hk5, hr5⟩ := HFA.out
            refine ⟨⟨m - k, by omega, congrArg _ (by omega), ?_⟩, ?_⟩
            · have hrt : RnsS wc (some ⟨g, oo, none⟩) t := by rw [ht0]; exact fun h => absurd rfl h
              exact read_finD hmm hkm hc5 hp5 rb5 (fun q hq => set3_other wc Br q _ _ _ _ hq) (set3_size wc Br _ _ _ _) (set3_blk wc Br _ _ _ _ rb5) (L' := t) (nl' := nl - 1) (o' := 0) (cr' := 0) (N := N) (by omega) (by omega) (by omega) hrt (fun _ _ _ => Nat.zero_le _) (fun x hx => HRD.out.bd x (List.mem_cons_of_mem _ hx)) (by simpa using hgs5) (cut0 (hok6 HEN.out)) (((rem_step r t o k hko).2.2 HEN.out).trans (by rw [HREM.out])) (by omega) (fun _ => by omega) HBL.out hb5 HKP.out hk5 HRW.out hr5 hBr ⟨_, rfl, rfl, rfl, rfl⟩
            · have l1 := lenAt_of HRD.out.blk
              have l2 := lenAt_of (set3_blk wc Br (.int .i64 ((o : Int) + k)) (.slice (some ⟨g, oo, none⟩) (nl - 1) 0) (.int .i64 0) nq rb5)
              rw [l1, l2]; simp [intOf]; omega
          · go_wp2
            have hnl0 := HNL.out
            have hcap := HRD.out.cap
            have hmx := HRD.out.mx
            obtain ⟨hc5, hp5, rb5, hrs5, hgs5, hok5, hok6, hb5, hk5, hr5⟩ := HFA.out
            have htl := hrs5.tail (c := cr) (by omega)
            rw [if_neg hc1] at htl
            have htl' : RnsS wc (some ⟨g, oo + 3, none⟩) t := by simpa [Addr.add] using htl
            refine ⟨⟨m - k, by omega, congrArg _ (by omega), ?_⟩, ?_⟩
            · exact read_finD hmm hkm hc5 hp5 rb5 (fun q hq => set3_other wc Br q _ _ _ _ hq) (set3_size wc Br _ _ _ _) (set3_blk wc Br _ _ _ _ rb5) (L' := t) (nl' := nl - 1) (o' := 0) (cr' := cr - 1) (N := N) (by omega) (by omega) (by omega) htl' (fun _ _ _ => Nat.zero_le _) (fun x hx => HRD.out.bd x (List.mem_cons_of_mem _ hx)) (by simpa using hgs5) (cut0 (hok6 HEN.out)) (((rem_step r t o k hko).2.2 HEN.out).trans (by rw [HREM.out])) (by omega) (fun _ => by omega) HBL.out hb5 HKP.out hk5 HRW.out hr5 hBr ⟨_, rfl, rfl, rfl, rfl⟩
            · have l1 := lenAt_of HRD.out.blk
              have l2 := lenAt_of (set3_blk wc Br (.int .i64 ((o : Int) + k)) (.slice (some ⟨g, oo + 3, none⟩) (nl - 1) (cr - 1)) (.int .i64 0) nq rb5)
              rw [l1, l2]; simp [intOf]; omega
        · have q1 : ((o : Int) + (k : Int) == (r.x.size : Int)) = false := by rw [beq_eq_false_iff_ne]; omega
          have HEN := Lib.hid hend; clear hend
          go_wp2_with fail
          go_quiet (fail)
          clear v1
          go_wp2
          have hnl0 := HNL.out
          have hkm2 : ¬ k < m := fun h => HEN.out (HKX.out h)
          obtain ⟨hc5, hp5, rb5, hrs5, hgs5, hok5, hok6, hb5, hk5, hr5⟩ := HFA.out
          refine ⟨⟨m - k, by omega, congrArg _ (by omega), ?_⟩, ?_⟩
          · have hcast : (.int .i64 ((o : Int) + (k : Int)) : Value) = .int .i64 ((o + k : Nat) : Int) := congrArg _ (by omega)
            exact read_finD hmm hkm hc5 hp5 rb5 (fun q hq => Below.heap_setCell wc ⟨Br, 1, none⟩ _ q hq) (by simp [World.setCell, World.drewN]) (by rw [hcast]; exact set1_blk wc Br _ _ rb5) (L' := r :: t) (nl' := nl) (o' := o + k) (cr' := cr) (N := N) HRD.out.len HRD.out.cap HRD.out.mx hrs5 (fun r' t' h => by injection h with h1 h2; subst h1; exact hko) HRD.out.bd (by simpa using hgs5) hok5 ((rem_step r t o k hko).2.1.trans (by rw [HREM.out])) (by omega) (fun h => absurd h hkm2) HBL.out hb5 HKP.out hk5 HRW.out hr5 hBr ⟨_, rfl, rfl, rfl, rfl⟩
          · have l1 := lenAt_of HRD.out.blk
            have l2 := lenAt_of (set1_blk wc Br (.int .i64 ((o : Int) + k)) nq rb5)
            rw [l1, l2]; simp [intOf]; omega
end Go.Proofs.Ytpifobaejmfppaa
