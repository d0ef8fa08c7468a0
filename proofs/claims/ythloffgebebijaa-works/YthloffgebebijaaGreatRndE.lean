/- RndE: an executive in memory; the walks of package rounds' round and Run. -/
import Derived.Test.YthloffgebebijaaGreatRndC
import Derived.Test.YthloffgebebijaaGreatRndD
namespace Go.Proofs.YthloffgebebijaaGreat
open Go.RowKit

/-- The executive x in memory, its block X; all blocks of its own are in S. -/
structure ExecP (w : World) (S : Nat → Prop) (base X : Nat) (mu : Int) (x : Exs) (dv qv : Value) (L : Nat) (vs : List Value) (hs : List Jb) : Prop where
  core : CoreP w base X mu dv (.slice (some ⟨L, 0, none⟩) x.lines.length x.lines.length) qv hs x.cfg x.fed x.clock x.ct
  perm : hs.Perm x.jobs
  lines : LinesP w base L vs x.lines
  sx : S X
  sl : S L
  sd : ∀ k, dv.ownBlock = some k → S k
  sq : ∀ k, qv.ownBlock = some k → S k
  sv : ∀ k v, v ∈ vs → v.ownBlock = some k → S k

theorem ExecP.same {w w' : World} {S : Nat → Prop} {base X : Nat} {mu : Int} {x : Exs} {dv qv : Value} {L : Nat} {vs : List Value} {hs : List Jb} (h : ExecP w S base X mu x dv qv L vs hs) (hk : ∀ k, S k → w'.heap[k]? = w.heap[k]?) : ExecP w' S base X mu x dv qv L vs hs :=
  ⟨h.core.same fun k e => hk k (by
    rcases e with rfl | e | e
    · exact h.sx
    · exact h.sq k e
    · exact h.sd k e), h.perm, h.lines.same fun k e => hk k (by
    rcases e with rfl | ⟨v, hv, e⟩
    · exact h.sl
    · exact h.sv k v hv e), h.sx, h.sl, h.sd, h.sq, h.sv⟩
theorem ExecP.mono {w : World} {S S' : Nat → Prop} {base X : Nat} {mu : Int} {x : Exs} {dv qv : Value} {L : Nat} {vs : List Value} {hs : List Jb} (h : ExecP w S base X mu x dv qv L vs hs) (hk : ∀ k, k < w.heap.size → S k → S' k) : ExecP w S' base X mu x dv qv L vs hs :=
  ⟨h.core, h.perm, h.lines, hk _ h.core.q.blk.lt h.sx, hk _ h.lines.blk.lt h.sl, fun k e => hk k (ownsRow_lt h.core.d e).2 (h.sd k e), fun k e => hk k (ownsRow_lt h.core.q.row e).2 (h.sq k e), fun k v hv e => hk k (h.lines.lt (.inr ⟨v, hv, e⟩)) (h.sv k v hv e)⟩

/-- Events ahead of a reading stay ahead. -/
def preOut (o : List Ev) (r : Rdg) : Rdg := { r with out := o ++ r.out }
theorem exTake_out (c : Cfg) (t : Int) (o : List Ev) (r : Rdg) (m : Mg) : exTake c t (preOut o r) m = preOut o (exTake c t r m) := by
  unfold exTake preOut
  simp only
  split
  · rfl
  · split
    · simp
    · rfl
theorem foldTake_out (c : Cfg) (t : Int) (o : List Ev) : ∀ (ms : List Mg) (r : Rdg), ms.foldl (exTake c t) (preOut o r) = preOut o (ms.foldl (exTake c t) r)
  | [], _ => rfl
  | m :: ms, r => by rw [List.foldl_cons, exTake_out, foldTake_out c t o ms, List.foldl_cons]
theorem exRead_out (c : Cfg) (t : Int) (o : List Ev) (f : Nat) (l : List Fd) (r : Rdg) : exRead c t f l (preOut o r) = ((exRead c t f l r).1, preOut o (exRead c t f l r).2) := by
  rw [exRead_two, exRead_two, foldTake_out]
  rfl
theorem exLines_out (c : Cfg) (t : Int) (o : List Ev) : ∀ (ls : List (List Fd)) (r : Rdg), exLines c t ls (preOut o r) = ((exLines c t ls r).1, preOut o (exLines c t ls r).2)
  | [], _ => rfl
  | l :: ls, r => by
    have h1 : exLine c t l (preOut o r) = ((exLine c t l r).1, preOut o (exLine c t l r).2) := by
      unfold exLine
      simp only [exRead_out]
    rw [exLines, exLines, h1]
    simp only
    rw [exLines_out c t o ls]

/-- What a round leaves. -/
structure RoundP (w w' : World) (S E : Nat → Prop) (base eb X : Nat) (mu : Int) (x : Exs) (ev : Value) (out : List Ev) (dv : Value) (L : Nat) : Prop where
  ex : ∃ qv vs hs, ExecP w' (fun k => S k ∨ w.heap.size ≤ k) base X mu x dv qv L vs hs
  evs : EvP w' eb ev out
  ve : ∀ k, ev.ownBlock = some k → E k ∨ w.heap.size ≤ k
  fr : Fr (fun k => S k ∨ E k) w w'

set_option maxRecDepth 100000 in
set_option maxHeartbeats 3200000 in
theorem round_any (S E : Nat → Prop) (base eb X L : Nat) (mu N : Int) (x : Exs) (dv qv ev : Value) (vs : List Value) (hs : List Jb) (out : List Ev) (w : World)
    (h : ExecP w S base X mu x dv qv L vs hs) (he : EvP w eb ev out) (hE : ∀ k, ev.ownBlock = some k → E k) (hbase : base ≤ w.heap.size) (heb : eb ≤ w.heap.size) (hi : ExIn x N) (hck : x.clock < 3000) (hol : out.length ≤ 700000000) :
    Calls Tryz.prog 89 #[.pointer (some ⟨X, 2, none⟩), ev] w fun e w' => ∃ ev', e = .returned ev' ∧ RoundP w w' S E base eb X mu (exRound x).1 ev' (out ++ (exRound x).2) dv L := by
  have HX := hide h
  have HE := hide he
  have HI := hide hi
  have HSE := hide hE
  have hc0 := hi.ck0
  obtain ⟨⟨c1, c2⟩, ⟨c3, c4⟩, ⟨c5, c6⟩, ⟨c7, c8⟩, ⟨c9, c10⟩, c11, c12⟩ := cfgNum hi.cfg
  have hnl := hi.nl
  have hsp := hi.read
  have hhn := held_nonneg x.lines
  have hhl := held_le x.lines fun l hl => (hi.ln l hl).len
  have HREAD := hide (read_any S E base eb X L mu dv qv ev vs hs x.cfg x.fed x.clock x.fed (N - x.ct.spilled - held x.lines) x.lines ⟨x.jobs, x.ct, out⟩ w h.core h.perm h.lines he ⟨.inl h.sx, .inl h.sl, fun k e => .inl (h.sq k e), fun k e => .inl (hE k e), fun k v hv e => .inl (h.sv k v hv e)⟩ hbase heb hi.cfg ⟨hi.rd.nj, hi.rd.nd, hi.rd.jb, hi.rd.dn, hi.rd.d0, hi.rd.l0, hi.rd.u0, hi.rd.b0, hi.rd.tot⟩ (by omega) hi.ln (by omega) ⟨hi.ck0, by omega⟩ (by simp only; omega))
  clear h he hi hE
  go_enter Tryz.func89, Tryz.ntmps89
  go_wp2_with fail
  refine HREAD.out.mono ?_
  rintro e w1 ⟨qv1, hs1, ev1, rfl, k1, p1, vs1, l1, e1, f1, o1⟩
  obtain ⟨a1, -, a3, a4, a5, a6⟩ := exLines_in (t := x.clock) x.lines HI.out.ln HI.out.rd
  have hpre : exLines x.cfg x.clock x.lines ⟨x.jobs, x.ct, out⟩ = ((exLines x.cfg x.clock x.lines ⟨x.jobs, x.ct, []⟩).1, preOut out (exLines x.cfg x.clock x.lines ⟨x.jobs, x.ct, []⟩).2) := by
    have := exLines_out x.cfg x.clock out x.lines ⟨x.jobs, x.ct, []⟩
    rw [← this]
    simp [preOut]
  rw [hpre] at k1 p1 l1 e1
  simp only at a4 a5 a6
  have HRN : Hid (∀ P, exLines x.cfg x.clock x.lines ⟨x.jobs, x.ct, []⟩ = P → P.2.jobs = [] → exRound x = ({ x with lines := P.1, jobs := P.2.jobs, ct := P.2.ct, clock := x.clock + x.cfg.poll + x.cfg.idle }, P.2.out)) := by
    intro P hP hj
    unfold exRound
    simp only [hP, hj]
    rfl
  have HRS : Hid (∀ P j, exLines x.cfg x.clock x.lines ⟨x.jobs, x.ct, []⟩ = P → P.2.jobs[firstJ P.2.jobs]? = some j → exRound x = ({ x with lines := P.1, jobs := P.2.jobs.eraseIdx (firstJ P.2.jobs), ct := { P.2.ct with done := P.2.ct.done + 1 }, clock := x.clock + x.cfg.poll + x.cfg.sw + j.cost }, P.2.out ++ [⟨1, x.clock + x.cfg.poll, j.number, j.task, j.deadline⟩, ⟨2, x.clock + x.cfg.poll + x.cfg.sw + j.cost, j.number, j.task, j.deadline⟩])) := by
    intro P j hP hj
    unfold exRound
    simp only [hP, hj]
  generalize hPP : exLines x.cfg x.clock x.lines ⟨x.jobs, x.ct, []⟩ = P at *
  have HP1 : Hid (hs1.Perm P.2.jobs) := p1
  have HE1 : Hid (EvP w1 eb ev1 (out ++ P.2.out)) := e1
  have hK1 : CoreP w1 base X mu dv (.slice (some ⟨L, 0, none⟩) x.lines.length x.lines.length) qv1 hs1 x.cfg x.fed x.clock P.2.ct := k1
  have HL1 : Hid (LinesP w1 base L vs1 P.1) := l1
  have HF1 := hide f1
  have HO1 := hide o1
  have HA1 := hide a1
  have HRD := hide a3
  have hz1 := f1.size
  have hol1 : (out ++ P.2.out).length ≤ 700001000 := by rw [List.length_append]; simp at a6; omega
  have HRN' := hide (HRN.out P rfl)
  have HRS' := hide (fun j => HRS.out P j rfl)
  have HX1 : Hid (∀ k, dv.ownBlock = some k → S k) := HX.out.sd
  clear k1 p1 l1 e1 f1 o1 a1 a3 a4 a5 a6 hpre HRN HRS hPP HREAD HX HE
  have d3 : w1.cell? ⟨X, 3, none⟩ = some (.int .i64 x.cfg.poll) := hK1.q.blk.cell 3
  have d10 : w1.cell? ⟨X, 10, none⟩ = some (.int .i64 x.clock) := hK1.q.blk.cell 10
  have z10 := hK1.q.blk.free 10
  have hK2 : CoreP (w1.setCell ⟨X, 10, none⟩ (.int .i64 (x.clock + x.cfg.poll))).drew base X mu dv (.slice (some ⟨L, 0, none⟩) x.lines.length x.lines.length) qv1 hs1 x.cfg x.fed (x.clock + x.cfg.poll) P.2.ct := (hK1.count 10 (.int .i64 (x.clock + x.cfg.poll)) (clock' := x.clock + x.cfg.poll) (ct' := P.2.ct) rfl).same fun _ _ => rfl
  have hE2 : EvP (w1.setCell ⟨X, 10, none⟩ (.int .i64 (x.clock + x.cfg.poll))).drew eb ev1 (out ++ P.2.out) := HE1.out.same fun k hk => heap_setCell_other w1 ⟨X, 10, none⟩ k _ (fun e => ownsRow_ne_blk HE1.out hK1.q.blk (by decide) (by rw [hk, e]))
  have hL2 : LinesP (w1.setCell ⟨X, 10, none⟩ (.int .i64 (x.clock + x.cfg.poll))).drew base L vs1 P.1 := HL1.out.same fun k hk => heap_setCell_other w1 ⟨X, 10, none⟩ k _ (fun e => HL1.out.off hK1.q.blk (by decide) (by decide) (show X = L ∨ _ by simp only at e; subst e; exact hk))
  have hF2 : Fr (fun k => S k ∨ E k) w (w1.setCell ⟨X, 10, none⟩ (.int .i64 (x.clock + x.cfg.poll))).drew := (HF1.out.trans (Fr.set (X := fun k => k = X) w1 X 10 _ rfl) fun k hk e => by
    rcases HO1.out.set k (.inl e) with h | h
    · exact h
    · omega).drew
  have hz2 : (w1.setCell ⟨X, 10, none⟩ (.int .i64 (x.clock + x.cfg.poll))).drew.heap.size = w1.heap.size := by simp
  have HK2 := hide hK2
  have HE2 := hide hE2
  have HL2 := hide hL2
  have HF2 := hide hF2
  clear hK2 hE2 hL2 hF2 hK1
  go_wp2_with fail
  apply wp_once
  case h =>
    go_region
    all_goals exact ⟨rfl, rfl⟩
  generalize (w1.setCell ⟨X, 10, none⟩ (.int .i64 (x.clock + x.cfg.poll))).drew = W2 at *
  clear d3 d10 z10
  go_wp2_with fail
  refine (qLen_any base X 8 _ _ qv1 hs1 W2 HK2.out.q).mono ?_
  rintro e w3 ⟨rfl, hw3⟩
  have hw4 := hw3.symm
  subst hw4
  clear hw3
  by_cases hem : hs1 = []
  · have hem0 : hs1.length = 0 := by rw [hem]; rfl
    have HJ : Hid (P.2.jobs = []) := by
      have := HP1.out.length_eq
      rw [hem0] at this
      exact List.length_eq_zero_iff.1 this.symm
    rw [hem0]
    have d4 : W2.cell? ⟨X, 4, none⟩ = some (.int .i64 x.cfg.idle) := HK2.out.q.blk.cell 4
    have d10 : W2.cell? ⟨X, 10, none⟩ = some (.int .i64 (x.clock + x.cfg.poll)) := HK2.out.q.blk.cell 10
    have z10 := HK2.out.q.blk.free 10
    go_wp2_with fail
    apply wp_once
    case h =>
      go_region
      all_goals exact ⟨rfl, rfl⟩
    go_wp2
    go_ret
    have hK3 : CoreP (W2.setCell ⟨X, 10, none⟩ (.int .i64 (x.clock + x.cfg.poll + x.cfg.idle))).drew base X mu dv (.slice (some ⟨L, 0, none⟩) x.lines.length x.lines.length) qv1 hs1 x.cfg x.fed (x.clock + x.cfg.poll + x.cfg.idle) P.2.ct := (HK2.out.count 10 (.int .i64 (x.clock + x.cfg.poll + x.cfg.idle)) (clock' := x.clock + x.cfg.poll + x.cfg.idle) (ct' := P.2.ct) rfl).same fun _ _ => rfl
    rw [HRN'.out HJ.out]
    refine ⟨ev1, rfl, ⟨qv1, vs1, hs1, ?_, HP1.out, HL2.out.same fun k hk => heap_setCell_other W2 ⟨X, 10, none⟩ k _ (fun e => HL2.out.off HK2.out.q.blk (by decide) (by decide) (show X = L ∨ _ by simp only at e; subst e; exact hk)), HO1.out.x, HO1.out.l, fun k e => .inl (HX1.out k e), HO1.out.q, HO1.out.v⟩, HE2.out.same fun k hk => heap_setCell_other W2 ⟨X, 10, none⟩ k _ (fun e => ownsRow_ne_blk HE2.out HK2.out.q.blk (by decide) (by rw [hk, e])), HO1.out.e, (HF2.out.trans (Fr.set (X := fun k => k = X) W2 X 10 _ rfl) fun k hk e => by
      rcases HO1.out.set k (.inl e) with h | h
      · exact h
      · omega).drew⟩
    simp only
    rw [HA1.out]
    exact hK3
  · have hem0 : hs1.length ≠ 0 := fun e => hem (List.length_eq_zero_iff.1 e)
    have hemi : ((hs1.length : Int) == 0) = false := by simp; exact hem
    have hpl := HP1.out.length_eq
    have hnj := HRD.out.nj
    have hhp := held_nonneg P.1
    have hct := HRD.out.ctIn (by omega)
    have hd0 := hct.d0
    have hd1 := hct.d1
    have HWORK := hide (work_any base eb X mu dv _ qv1 ev1 hs1 x.cfg x.fed (x.clock + x.cfg.poll) P.2.ct (out ++ P.2.out) W2 HK2.out hem HE2.out (by omega) (by omega) (by omega) hd0 hd1 (fun j hj => by have := HRD.out.jb j (HP1.out.mem_iff.1 hj); omega) ⟨c9, c10⟩ ⟨by omega, by omega⟩)
    clear hct
    go_wp2_with fail
    refine HWORK.out.mono ?_
    rintro e w4 ⟨j, qv4, hs4, ev4, rfl, k4, p4, m4, e4, f4, oq4, oe4⟩
    obtain ⟨hfj, hpe⟩ := first_same HP1.out HRD.out.nd p4 m4
    have hL4 : LinesP w4 base L vs1 P.1 := HL2.out.same fun k hk => f4.block k (HL2.out.lt hk) (by
      rintro (rfl | e | e)
      · exact HL2.out.off HK2.out.q.blk (by decide) (by decide) hk
      · exact HL2.out.offRow HK2.out.q.row (by decide) (by decide) e hk
      · exact HL2.out.offRow HE2.out (by decide) (by decide) e hk)
    have HF4 : Hid (Fr (fun k => S k ∨ E k) w w4) := HF2.out.trans f4 fun k hk hh => by
      rcases HO1.out.set k (by
        rcases hh with e | e | e
        · exact .inl e
        · exact .inr (.inr (.inl e))
        · exact .inr (.inr (.inr (.inl e)))) with h | h
      · exact h
      · omega
    have HEV4 : Hid (∀ k, ev4.ownBlock = some k → E k ∨ w.heap.size ≤ k) := fun k e => by
      rcases oe4 with o | ⟨z, o, hz⟩
      · exact HO1.out.e k (o ▸ e)
      · rw [o] at e; cases e; exact .inr (by omega)
    have HK4 := hide k4
    have HEE4 := hide e4
    have HL4 := hide hL4
    have HJ4 := hide (And.intro hfj (And.intro hpe oq4))
    clear k4 p4 m4 e4 f4 oq4 oe4 hfj hpe hL4
    go_wp2
    go_ret
    rw [HRS'.out j HJ4.out.1]
    refine ⟨ev4, rfl, ⟨qv4, vs1, hs4, ?_, HJ4.out.2.1, HL4.out, HO1.out.x, HO1.out.l, fun k e => .inl (HX1.out k e), fun k e => HO1.out.q k (HJ4.out.2.2 ▸ e), HO1.out.v⟩, ?_, HEV4.out, HF4.out⟩
    · simp only
      rw [HA1.out]
      exact HK4.out
    · have := HEE4.out
      rw [List.append_assoc] at this
      exact this

/-- The rounds of Run, with fuel enough. -/
theorem exRun_step {u : Int} {f : Nat} {x : Exs} (h : x.clock < u ∧ x.clock < 3000) : exRun u (f + 1) x = ((exRun u f (exRound x).1).1, (exRound x).2 ++ (exRun u f (exRound x).1).2) := by
  rw [exRun, if_pos h]
theorem exRun_stop {u : Int} {f : Nat} {x : Exs} (h : ¬ (x.clock < u ∧ x.clock < 3000)) : exRun u f x = (x, []) := by
  cases f with
  | zero => rfl
  | succ f => rw [exRun, if_neg h]

set_option maxRecDepth 100000 in
set_option maxHeartbeats 3200000 in
theorem sRun_any (S : Nat → Prop) (base X L : Nat) (mu N u : Int) (x : Exs) (dv qv : Value) (vs : List Value) (hs : List Jb) (w : World)
    (h : ExecP w S base X mu x dv qv L vs hs) (hbase : base ≤ w.heap.size) (hi : ExIn x N) :
    Calls Tryz.prog 72 #[.pointer (some ⟨X, 2, none⟩), .int .i64 u] w fun e w' => ∃ ev', e = .returned ev' ∧ RoundP w w' S (fun k => w.heap.size ≤ k) base w.heap.size X mu (exRun u 3000 x).1 ev' (exRun u 3000 x).2 dv L := by
  have HX := hide h
  have HI := hide hi
  have hc0 := hi.ck0
  have hc1 := hi.ck1
  have hX := h.core.q.blk.lt
  clear h hi
  go_enter Tryz.func72, Tryz.ntmps72
  go_wp2_with fail
  go_loopw [5] (fun evv wr => ∃ (x' : Exs) (f : Nat) (o : List Ev), ExIn x' N ∧ (∃ qv vs hs, ExecP wr (fun k => S k ∨ w.heap.size ≤ k) base X mu x' dv qv L vs hs) ∧ EvP wr w.heap.size evv o ∧ exRun u 3000 x = ((exRun u f x').1, o ++ (exRun u f x').2) ∧ 3000 - x'.clock ≤ (f : Int) ∧ (o.length : Int) ≤ 34 * x'.clock ∧ Fr (fun k => S k ∨ w.heap.size ≤ k) w wr) (fun _ wr => (3300 - intOf ((wr.cell? ⟨X, 10, none⟩).getD undef)).toNat)
  case atStart => exact ⟨x, 3000, [], HI.out, ⟨qv, vs, hs, HX.out.mono fun _ _ h => .inl h⟩, World.ownsRow_nil _ _ _ _, by simp, by omega, by simp; omega, Fr.refl _ _⟩
  case round =>
    obtain ⟨x', f, o, hi', ⟨qv', vs', hs', hx'⟩, he', hrn, hfu, hol, hfr⟩ := hrel
    have d10 : wr.cell? ⟨X, 10, none⟩ = some (.int .i64 x'.clock) := hx'.core.q.blk.cell 10
    have hk0 := hi'.ck0
    have hk1 := hi'.ck1
    have hzr := hfr.size
    have HI' := hide hi'
    have HX' := hide hx'
    have HE' := hide he'
    have HRUN := hide hrn
    have HFR := hide hfr
    by_cases hgo : x'.clock < u ∧ x'.clock < 3000
    · obtain ⟨hg1, hg2⟩ := hgo
      obtain ⟨f', rfl⟩ : ∃ f', f = f' + 1 := ⟨f - 1, by omega⟩
      have HNX := hide (exRound_in hi' hg2)
      have HRD := hide (round_any (fun k => S k ∨ w.heap.size ≤ k) (fun k => w.heap.size ≤ k) base w.heap.size X L mu N x' dv qv' u5 vs' hs' o wr hx' he' (fun k e => (ownsRow_lt he' e).1) (by omega) hzr hi' hg2 (by omega))
      have HST : Hid (exRun u 3000 x = ((exRun u f' (exRound x').1).1, (o ++ (exRound x').2) ++ (exRun u f' (exRound x').1).2)) := by
        rw [Hid, HRUN.out, exRun_step ⟨hg1, hg2⟩]
        simp
      have hmin : x'.clock < min u 3000 := by omega
      clear hi' hx' he' hrn hfr
      go_wp2_with fail
      all_goals
        refine HRD.out.mono ?_
        rintro e w2 ⟨ev2, rfl, ⟨qv2, vs2, hs2, x2⟩, e2, v2, f2⟩
        have hX2 : ExecP w2 (fun k => S k ∨ w.heap.size ≤ k) base X mu (exRound x').1 dv qv2 L vs2 hs2 := x2.mono fun k _ hk => hk.elim id fun h => .inr (by omega)
        have HX2 := hide hX2
        have HE2 := hide e2
        have HF2 : Hid (Fr (fun k => S k ∨ w.heap.size ≤ k) w w2) := HFR.out.trans f2 fun k hk hh => hh.elim id .inr
        have d10' : w2.cell? ⟨X, 10, none⟩ = some (.int .i64 (exRound x').1.clock) := hX2.core.q.blk.cell 10
        clear x2 hX2 e2 v2 f2
        go_wp2
        go_roundw
        case rel =>
          refine ⟨(exRound x').1, f', o ++ (exRound x').2, HNX.out.1, ⟨qv2, vs2, hs2, HX2.out⟩, HE2.out, HST.out, ?_, ?_, HF2.out⟩
          · have := HNX.out.2.1; omega
          · have h1 := HNX.out.2.1; have h2 := HNX.out.2.2; rw [List.length_append]; omega
        case measure =>
          have h1 := HNX.out.2.1; have h2 := HNX.out.1.ck1
          rw [d10, d10']
          simp only [Option.getD_some, intOf]
          omega
    · have hmin : ¬ x'.clock < min u 3000 := by omega
      have HST : Hid (exRun u f x' = (x', [])) := exRun_stop hgo
      have hg : ¬ x'.clock < u ∨ ¬ x'.clock < 3000 := by omega
      clear hi' hx' he' hrn hfr
      go_wp2
      all_goals
        go_ret
        rw [HRUN.out, HST.out]
        refine ⟨u5, rfl, ⟨qv', vs', hs', HX'.out⟩, ?_, fun k e => .inl (ownsRow_lt HE'.out e).1, HFR.out⟩
        simp only [List.append_nil]
        exact HE'.out

end Go.Proofs.YthloffgebebijaaGreat
