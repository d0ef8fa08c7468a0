/- CntC: the walk of tillerkeep.Counted: it answers true. -/
import Derived.Test.YthloffgebebijaaCntB
import Derived.Test.YthloffgebebijaaMath
import Derived.Deep.DeepCutAuto
import Derived.Deep.LoopGhost
import Derived.Deep.RegionHeld3
import Derived.Deep.DrawnRows
namespace Go.Proofs.Ythloffgebebijaa
open Go.RowKit Go.MuLone
attribute [local go_sem ↓] Go.wp_at_zero Go.wp_at_succ

/-- What stands in Counted's loop: the house, how many bytes were fed (modulo two to the 64th), the last tick. -/
structure CntP (w0 w : World) (H X : Nat) (c : Cfg) (tv : Value) (fed at' : Int) : Prop where
  hou : ∃ x S dv done, HouP w S w0.heap.size H X x c tv 0 (.slice none 0 0) dv done ∧ (∀ k, S k → w0.heap.size ≤ k) ∧ (∃ N, ExIn x N ∧ IntKind.i64.wrap N = fed) ∧ x.cfg = c ∧ x.fed ≤ at' ∧ x.clock ≤ 1400 ∧ cnt 2 done = x.ct.done ∧ cnt 3 done = x.ct.lost ∧ (done.length : Int) ≤ 34 * x.clock
  hh : w0.heap.size ≤ H
  a0 : 0 ≤ at'
  a1 : at' < 1000
  bel : Below w0.heap.size w0 w

theorem CntP.later {w0 w w' : World} {H X : Nat} {c : Cfg} {tv : Value} {fed at' : Int} (h : CntP w0 w H X c tv fed at') (hb : Below w.heap.size w w') : CntP w0 w' H X c tv fed at' := by
  obtain ⟨⟨x, S, dv, done, p, r⟩, h1, h2, h3, h4⟩ := h
  exact ⟨⟨x, S, dv, done, p.later hb, r⟩, h1, h2, h3, h4.trans (hb.mono h4.size)⟩
/-- A Feed that is not refused. -/
theorem exFeed_ok {x : Exs} {n A : Int} {bs : List Int} (hn : 0 ≤ n ∧ n < x.cfg.lines) (hA : x.clock ≤ A ∧ x.fed ≤ A ∧ A < 1000) : (exFeed x n A bs).2 = 0 ∧ (exFeed x n A bs).1.cfg = x.cfg ∧ (exFeed x n A bs).1.fed = A ∧ (exFeed x n A bs).1.clock = x.clock ∧ (exFeed x n A bs).1.ct.done = x.ct.done ∧ (exFeed x n A bs).1.ct.lost = x.ct.lost := by
  unfold exFeed
  rw [if_pos (by omega), if_neg (by omega)]
  exact ⟨rfl, rfl, rfl, rfl, rfl, rfl⟩
/-- The house, behind a call of its executive. -/
theorem HouP.turn {w w' : World} {S S' : Nat → Prop} {base H X : Nat} {x x' : Exs} {c : Cfg} {tv : Value} {last : Int} {sv dv : Value} {done : List Ev} (h : HouP w S base H X x c tv last sv dv done) (hx : Xec w' S' base X x') (hf : Fr S w w') (hs : ∀ k, S' k → S k ∨ w.heap.size ≤ k) : HouP w' S' base H X x' c tv last sv dv done := by
  refine ⟨(hf.block H h.blk.lt h.nh).trans h.blk, hx, h.ev.same fun k hk => hf.block k (ownsRow_lt h.ev hk).2 (h.nd k hk), fun e => ?_, fun k hk e => ?_, hx.lt.2⟩
  · rcases hs H e with e | e
    · exact h.nh e
    · have := h.blk.lt; omega
  · rcases hs k e with e | e
    · exact h.nd k hk e
    · have := (ownsRow_lt h.ev hk).2; omega

set_option maxRecDepth 100000 in
set_option maxHeartbeats 20000000 in
theorem counted_true (lines room price : Int) (vr vb vt : Value) (rs : List Raw5) (ss : List ByteArray) (ts : List Int) (B : Nat) (w : World) (h1 : In64 lines) (h2 : In64 room) (h3 : In64 price)
    (hvr : Raws w B vr rs) (hvb : StrsR w B vb ss) (hvt : IntsK w B vt ts) (hB : B ≤ w.heap.size) (hr : ∀ r ∈ rs, r.fits) (hlen : rs.length ≤ 140737488355328) (hsl : ss.length ≤ 140737488355328) (_htl : ts.length ≤ 140737488355328) (hti : ∀ t ∈ ts, In64 t) (hsum : ∀ s ∈ ss, s.size ≤ 140737488355328) :
    Calls Try.prog 4 #[.int .i64 lines, .int .i64 room, .int .i64 price, vr, vb, vt] w fun e w' => e = .returned (.bool true) ∧ Below w.heap.size w w' := by
  have HS := hide (settings_false lines room price vr rs B w h1 h2 h3 hvr hB hr hlen)
  have HOK := hide (mkCfg_ok lines room price rs false)
  generalize mkCfg lines room price rs false = c at *
  obtain ⟨ra, rcap, rfl, -⟩ := hvr
  obtain ⟨ba, bcap, rfl, hb⟩ := hvb
  obtain ⟨ta, tcap, rfl, ht⟩ := hvt
  have HB := hide hb
  have HT := hide ht
  have HTI := hide hti
  have HSUM := hide hsum
  generalize hrl : rs.length = rl at *
  generalize hSL : ss.length = sl at *
  generalize hTL : ts.length = tl at *
  have HSL := hide hSL
  have HTL := hide hTL
  obtain ⟨⟨c1, c2⟩, ⟨c3, c4⟩, ⟨c5, c6⟩, ⟨c7, c8⟩, ⟨c9, c10⟩, ⟨c11, c12⟩, c13⟩ := cfgNum HOK.out
  clear h1 h2 h3 hr hb ht hti hsum hrl hSL hTL c13
  go_enter Try.func4, Try.ntmps4
  go_wp2_with fail
  refine HS.out.mono ?_
  rintro e w1 ⟨v1, rfl, cf1, b1⟩
  obtain ⟨s1, rfl, t1⟩ := cf1
  obtain ⟨sa, scap, rfl⟩ := t1.slice
  have hz1 := b1.size
  have hbk : Below w1.heap.size w1 (w1.alloc (.cells #[.int .i64 c.lines, .int .i64 c.room, .int .i64 c.poll, .int .i64 c.idle, .int .i64 c.sw, .slice sa c.tasks.length scap] 26)) := (Below.refl _ _).alloc (Nat.le_refl _) _
  have HOP := hide (opened_any w1.heap.size c sa scap _ (t1.later hbk (Nat.le_refl _)) (by simp) HOK.out)
  have HB1 := hide b1
  have HK1 := hide (Blk.new w1 #[.int .i64 c.lines, .int .i64 c.room, .int .i64 c.poll, .int .i64 c.idle, .int .i64 c.sw, .slice sa c.tasks.length scap] 26)
  have hzk : (w1.alloc (.cells #[.int .i64 c.lines, .int .i64 c.room, .int .i64 c.poll, .int .i64 c.idle, .int .i64 c.sw, .slice sa c.tasks.length scap] 26)).heap.size = w1.heap.size + 1 := by simp
  have HZK := hide hzk
  have HBK := hide hbk
  clear t1 b1 HS hzk hbk
  go_wp2_with fail
  refine HOP.out.mono ?_
  generalize w1.alloc (.cells #[.int .i64 c.lines, .int .i64 c.room, .int .i64 c.poll, .int .i64 c.idle, .int .i64 c.sw, .slice sa c.tasks.length scap] 26) = V at *
  rintro e w2 ⟨H, X, S, rfl, p2, s2, hH2, q2⟩
  have hzv : w1.heap.size < V.heap.size := by rw [HZK.out]; omega
  have HST : Hid (CntP V w2 H X c (.slice sa c.tasks.length scap) 0 0) := ⟨⟨exNew c, S, _, [], p2, s2, ⟨0, exNew_in HOK.out, IntWalk.i64_in 0 ⟨by decide, by decide⟩⟩, rfl, Int.le_refl _, by simp [exNew], by simp [cnt_nil, exNew], by simp [cnt_nil, exNew], by simp [exNew]⟩, hH2, Int.le_refl _, by decide, q2⟩
  have hz2 := q2.size
  clear p2 s2 hH2 q2 HOP
  go_wp2_with fail
  go_loopg [16, 17, 18] sl (fun g fd av iv wr => ∃ (q : Nat) (fedN at' : Int), fd = .int .i64 fedN ∧ av = .int .i64 at' ∧ iv = .int .i64 q ∧ g = sl - q ∧ q ≤ sl ∧ CntP V wr H X c (.slice sa c.tasks.length scap) fedN at')
  case atStart => exact ⟨0, 0, 0, rfl, rfl, rfl, by omega, Nat.zero_le _, HST.out⟩
  case round =>
    obtain ⟨q, fedN, at', rfl, rfl, rfl, hgk, hq, hst⟩ := hrel
    have HGK := hide hgk
    obtain ⟨⟨x, S, dv, done, p, hS, ⟨N0, hin, hn64⟩, hcf, hxf, hck, hd2, hd3, hdl⟩, hHV, ha0, ha1, hbel⟩ := hst
    have hzr := hbel.size
    have HN0 := hide hn64
    clear hgk hn64
    by_cases hlt : q < sl
    · have hqi : (q : Int) < (sl : Int) := by omega
      obtain ⟨s, hs⟩ := get_of_lt (l := ss) (k := q) (by rw [HSL.out]; exact hlt)
      rcases HB.out with he | ⟨bb, bo, rfl, hbb, hbc⟩
      · rw [he] at hs; simp at hs
      have hbelw : Below w.heap.size w wr := (HB1.out.trans (HBK.out.mono hz1)).trans (hbel.mono (by rw [HZK.out]; omega))
      have cs : wr.cell? ⟨bb, bo + q, none⟩ = some (.string s) := (hbelw.cell (p := ⟨bb, bo + q, none⟩) (by simp; omega)).trans (hbc q s hs)
      have hsz : s.size ≤ 140737488355328 := HSUM.out s (List.mem_of_getElem? hs)
      obtain ⟨FN, hwf⟩ : ∃ FN, IntKind.i64.wrap (fedN + (s.size : Int)) = FN := ⟨_, rfl⟩
      have HWF : Hid (∀ N', IntKind.i64.wrap N' = IntKind.i64.wrap (N0 + (s.size : Int)) → IntKind.i64.wrap N' = FN) := fun N' e => by
        rw [e, ← hwf, ← HN0.out, wrap_add_left]
      have HP := hide p
      have HSS := hide hS
      have HIN := hide hin
      have HRX := hide (And.intro hcf (And.intro hxf (And.intro hck (And.intro hd2 (And.intro hd3 hdl)))))
      have HBEL := hide hbel
      have HBLW := hide hbelw
      have hbw : bb < wr.heap.size := by omega
      clear p hS hin hcf hxf hck hd2 hd3 hdl hbel hbelw hbc hs
      go_upto_if 47 with (fail)
      go_cut [19] (fun gp wx => ∃ gap : Int, gp = .int .i64 gap ∧ 0 ≤ gap ∧ gap < 40 ∧ wr = wx)
      case first =>
        by_cases hqt : q < tl
        · have hti : (q : Int) < (tl : Int) := by omega
          obtain ⟨t, htk⟩ := get_of_lt (l := ts) (k := q) (by rw [HTL.out]; exact hqt)
          rcases HT.out with he | ⟨tb, tof, rfl, htb, htc⟩
          · rw [he] at htk; simp at htk
          have ct : wr.cell? ⟨tb, tof + q, none⟩ = some (.int .i64 t) := (HBLW.out.cell (p := ⟨tb, tof + q, none⟩) (by simp; omega)).trans (htc q t htk)
          have htbw : tb < wr.heap.size := by omega
          have HPK := hide (keepPick_any t 40 wr (HTI.out t (List.mem_of_getElem? htk)) (by decide) (by decide))
          have g0 := pk_lo t 40 (by decide)
          have g1 := pk_hi t 40 (by decide)
          clear htc htk
          go_wp2_with fail
          refine HPK.out.mono ?_
          rintro e w' ⟨rfl, rfl⟩
          generalize pk t 40 = gap at *
          go_wp2
          go_meet
          case rel => exact ⟨gap, rfl, g0, g1, rfl⟩
        · have hti : ¬ (q : Int) < (tl : Int) := by omega
          go_wp2
          go_meet
          case rel => exact ⟨0, rfl, Int.le_refl _, by decide, rfl⟩
      case rest =>
        obtain ⟨gap, rfl, g0, g1, rfl⟩ := hcut
        have HCL := hide (clock_any S V.heap.size H X N0 x c _ 0 _ dv done wr HP.out HIN.out)
        have hXV : V.heap.size ≤ X := HSS.out X HP.out.nx
        have hk0 := HIN.out.ck0
        have hk1 := HIN.out.ck1
        go_upto_region 13 with (fail)
        go_cut [17] (fun av wx => ∃ A : Int, av = .int .i64 A ∧ (A = at' + gap ∧ x.clock ≤ at' + gap ∨ A = x.clock ∧ at' + gap ≤ x.clock) ∧ HouP wx S V.heap.size H X x c (.slice sa c.tasks.length scap) 0 (.slice none 0 0) dv done ∧ Below V.heap.size V wx)
        case first =>
          by_cases hmx : at' + gap < x.clock
          · go_wp2_with fail
            refine HCL.out.mono ?_
            rintro e w3 ⟨rfl, p3, f3⟩
            have HP3 := hide p3
            have HB3 : Hid (Below V.heap.size V w3) := HBEL.out.trans (f3.below hzr fun k hk => by omega)
            clear p3 f3
            go_wp2
            go_meet
            case rel => exact ⟨_, rfl, .inr ⟨rfl, by omega⟩, HP3.out, HB3.out⟩
          · go_wp2_with fail
            refine HCL.out.mono ?_
            rintro e w3 ⟨rfl, p3, f3⟩
            have HP3 := hide p3
            have HB3 : Hid (Below V.heap.size V w3) := HBEL.out.trans (f3.below hzr fun k hk => by omega)
            clear p3 f3
            go_wp2
            go_meet
            case rel => exact ⟨_, rfl, .inl ⟨rfl, by omega⟩, HP3.out, HB3.out⟩
        case rest =>
          obtain ⟨A, rfl, hA, p3, b3⟩ := hcut
          have hzc := b3.size
          by_cases hA1 : 1000 ≤ A
          · obtain ⟨hcf, hxf, hck, hd2, hd3, hdl⟩ := HRX.out
            have hCE : CntP V wc H X c (.slice sa c.tasks.length scap) fedN at' := ⟨⟨x, S, dv, done, p3, HSS.out, ⟨N0, HIN.out, HN0.out⟩, hcf, hxf, hck, hd2, hd3, hdl⟩, hHV, ha0, ha1, b3⟩
            clear p3 b3 hcf hxf hck hd2 hd3 hdl
            obtain ⟨⟨x7, S7, dv7, done7, p7, hs7, ⟨N7, in7, hn7⟩, cf7, xf7, ck7, d27, d37, dl7⟩, -, ha07, ha17, b7⟩ := hCE
            have hz7 := b7.size
            have hrc := exRun_cnt 3000 3000 in7
            have hri := exRun_in 3000 3000 in7
            have hre := exRun_end 3000 3000 in7 (by have := in7.ck0; omega)
            have hrs := exRun_short 3000 in7 (.inr (by omega))
            have hkz := in7.ck0
            have HRUN := hide (hrun_any S7 V.heap.size H X N7 3000 x7 c _ 0 _ dv7 done7 wc p7 in7 hz7 (by have := hrc.2.2.2.2.1; have := hri.ck1; omega))
            generalize exRun 3000 3000 x7 = RR at *
            obtain ⟨x9, es9⟩ := RR
            simp only at hrc hri hre hrs HRUN
            obtain ⟨r1, r2, r3, r4, r5, r6, r7⟩ := hrc
            have h9s : ∀ l ∈ x9.lines, l.length ≤ 3 := by
              rcases hrs with h | h
              · exact h
              · have : min (3000 : Int) 3000 = 3000 := by decide
                omega
            have h9h := held_short x9.lines h9s
            have h9n := hri.nl
            rw [r7, cf7] at h9n
            have h9c : (3000 : Int) ≤ x9.clock := by have : min (3000 : Int) 3000 = 3000 := by decide
                                                     omega
            have hE2 : cnt 2 (done7 ++ es9) = x9.ct.done := by rw [cnt_append, r3, d27]; omega
            have hE3 : cnt 3 (done7 ++ es9) = x9.ct.lost := by rw [cnt_append, r4, d37]; omega
            have hdl9 : (done7 ++ es9).length ≤ 200000 := by have := hri.ck1; rw [List.length_append]; omega
            have HCT := hide (fun (w4 : World) (S4 : Nat → Prop) (x4 : Xec w4 S4 V.heap.size X x9) => xCounts_any S4 V.heap.size X _ x9 w4 x4 hri)
            have HHV7 := hide (And.intro hs7 b7)
            have hdvl : ∀ k, dv7.ownBlock = some k → V.heap.size ≤ k := fun k hk => (ownsRow_lt p7.ev hk).1
            have HDVL := hide hdvl
            have hHl7 := p7.blk.lt
            simp only [countsV] at HCT
            have hhd9 : held x9.lines ≤ 3 * c.lines := by omega
            generalize held x9.lines = hd9 at *
            generalize x9.clock = kk9 at *
            generalize x9.ct.jobs = jj9 at *
            generalize x9.ct.done = dd9 at *
            generalize x9.ct.lost = ll9 at *
            generalize x9.ct.unknown = uu9 at *
            generalize x9.ct.bad = bd9 at *
            generalize x9.ct.spilled = sp9 at *
            generalize x9.jobs.length = wt9 at *
            generalize hES : done7 ++ es9 = EE at *
            have HE2 := hide hE2
            have HE3 := hide hE3
            clear p7 hs7 in7 cf7 xf7 d27 d37 dl7 b7 hri hre hrs r1 r2 r3 r4 r5 r6 r7 h9s h9h h9n hE2 hE3 hdvl hkz ck7 hES
            go_wp2_with fail
            refine HRUN.out.mono ?_
            rintro e w4 ⟨rfl, ⟨S4, dv4, p4, s4, o4⟩, f4⟩
            have b4 : Below V.heap.size V w4 := HHV7.out.2.trans (f4.below hz7 (by
              rintro k (h | h | h)
              · exact HHV7.out.1 k h
              · omega
              · exact HDVL.out k h))
            have hz4 := b4.size
            have g64 : w4.cell? ⟨H, 6, none⟩ = some (.pointer (some ⟨X, 0, none⟩)) := p4.blk.cell 6
            have hXV4 : V.heap.size ≤ X := by
              rcases s4 X p4.nx with h | h
              · exact HHV7.out.1 X h
              · omega
            have HC4 := hide (HCT.out w4 S4 p4.xec)
            have HP4 := hide p4
            have HB4 := hide b4
            clear p4 s4 o4 f4 b4 HRUN
            go_wp2_with fail
            refine HC4.out.mono ?_
            rintro e w5 ⟨rfl, x5, f5⟩
            have p5 : HouP w5 S4 V.heap.size H X x9 c (.slice sa c.tasks.length scap) 0 (.slice none 0 0) dv4 EE := HP4.out.turn x5 (f5.mono fun k _ e => by subst e; exact HP4.out.nx) (fun k e => .inl e)
            have b5 : Below V.heap.size V w5 := HB4.out.trans (f5.below hz4 fun k hk => by omega)
            have hz5 := b5.size
            obtain ⟨da, dc, hdv⟩ := ownsRow_slice p5.ev
            generalize hEL : EE.length = el at *
            have HEL := hide hEL
            subst hdv
            have hb6 : Below w5.heap.size w5 (w5.alloc (.cells #[.int .i64 kk9, .int .i64 jj9, .int .i64 dd9, .int .i64 wt9, .int .i64 ll9, .int .i64 uu9, .int .i64 bd9, .int .i64 sp9, .int .i64 hd9] 50)) := (Below.refl _ _).alloc (Nat.le_refl _) _
            have HP6 := hide (p5.later hb6)
            have HK6 := hide (HK1.out.later (b5.trans (hb6.mono (by omega))) (by omega))
            have HN6 := hide (Blk.new w5 #[.int .i64 kk9, .int .i64 jj9, .int .i64 dd9, .int .i64 wt9, .int .i64 ll9, .int .i64 uu9, .int .i64 bd9, .int .i64 sp9, .int .i64 hd9] 50)
            have HB6 : Hid (Below V.heap.size V (w5.alloc (.cells #[.int .i64 kk9, .int .i64 jj9, .int .i64 dd9, .int .i64 wt9, .int .i64 ll9, .int .i64 uu9, .int .i64 bd9, .int .i64 sp9, .int .i64 hd9] 50))) := b5.trans (hb6.mono (by omega))
            clear p5 b5 x5 f5 hEL hb6 HC4 HP4 HB4
            go_wp2_with fail
            generalize w5.alloc (.cells #[.int .i64 kk9, .int .i64 jj9, .int .i64 dd9, .int .i64 wt9, .int .i64 ll9, .int .i64 uu9, .int .i64 bd9, .int .i64 sp9, .int .i64 hd9] 50) = W6 at *
            go_loopg [23, 24, 25] el (fun g dnv lsv iv wr => ∃ i : Nat, dnv = .int .i64 (cnt 2 (EE.take i)) ∧ lsv = .int .i64 (cnt 3 (EE.take i)) ∧ iv = .int .i64 i ∧ g = el - i ∧ i ≤ el ∧ Below W6.heap.size W6 wr)
            case atStart => exact ⟨0, by simp [cnt], by simp [cnt], rfl, by omega, Nat.zero_le _, Below.refl _ _⟩
            case round =>
              obtain ⟨i, rfl, rfl, rfl, hgi, hie, hbi⟩ := hrel
              have HGI := hide hgi
              have HBI := hide hbi
              have hszi := hbi.size
              have hHl := HP6.out.blk.lt
              have y9 : wr.cell? ⟨H, 9, none⟩ = some (.slice da el dc) := (HP6.out.blk.later hbi hHl).cell 9
              have hHr : H < wr.heap.size := by omega
              have hcb : ∀ k j, cnt k (EE.take j) ≤ 200000 ∧ 0 ≤ cnt k (EE.take j) := fun k j => by
                have h1 : (EE.take j).countP (fun e => decide (e.kind = k)) ≤ (EE.take j).length := List.countP_le_length
                have h2 : (EE.take j).length ≤ EE.length := by rw [List.length_take]; omega
                unfold cnt
                rw [HEL.out] at h2
                omega
              obtain ⟨n21, n20⟩ := hcb 2 i
              obtain ⟨n31, n30⟩ := hcb 3 i
              clear hgi hbi
              by_cases hil : i < el
              · have hii : (i : Int) < (el : Int) := by omega
                obtain ⟨ev, hev⟩ := get_of_lt (l := EE) (k := i) (by rw [HEL.out]; exact hil)
                obtain ⟨dg, dcap, hdv, -, -⟩ := ownsRow_some HP6.out.ev (by rw [HEL.out]; omega)
                rw [HEL.out] at hdv
                simp only [Value.slice.injEq, true_and] at hdv
                obtain ⟨rfl, rfl⟩ := hdv
                have hdgl : dg < W6.heap.size := (ownsRow_lt HP6.out.ev (k := dg) rfl).2
                have y0 : wr.cell? ⟨dg, i * 5, none⟩ = some (.int .i64 ev.kind) := by
                  have h5 : ∀ c ∈ EE.map evCells, c.length = 5 := by
                    intro c hc
                    obtain ⟨j, _, rfl⟩ := List.mem_map.1 hc
                    rfl
                  have hg : (erow EE)[i * 5 + 0]? = some (.int .i64 ev.kind) := by
                    rw [erow, flatten_get h5 i 0 (by decide), List.getElem?_map, hev]
                    rfl
                  have h1 := World.ownsRow.cells (g := dg) HP6.out.ev (by rfl) (i * 5 + 0) _ hg
                  rw [Nat.add_zero, Addr.add] at h1
                  have h2 : W6.cell? ⟨dg, i * 5, none⟩ = some (.int .i64 ev.kind) := by
                    split at h1
                    · rename_i h0; rw [h0]; exact h1
                    · simpa using h1
                  exact (HBI.out.cell (p := ⟨dg, i * 5, none⟩) hdgl).trans h2
                have hdgr : dg < wr.heap.size := by omega
                have HT2 : Hid (cnt 2 (EE.take (i + 1)) = cnt 2 (EE.take i) + (if ev.kind = 2 then 1 else 0)) := by
                  rw [Hid, take_snoc hev, cnt_append, cnt_one]
                have HT3 : Hid (cnt 3 (EE.take (i + 1)) = cnt 3 (EE.take i) + (if ev.kind = 3 then 1 else 0)) := by
                  rw [Hid, take_snoc hev, cnt_append, cnt_one]
                obtain ⟨ek, e1', e2', e3', e4'⟩ := ev
                simp only at y0 HT2 HT3
                generalize cnt 2 (EE.take i) = n2 at *
                generalize cnt 3 (EE.take i) = n3 at *
                clear hev hcb
                by_cases h2 : ek = 2
                · subst h2
                  go_wp2_with fail
                  go_roundg (el - (i + 1))
                  case measure => have := HGI.out; omega
                  case rel => exact ⟨i + 1, by rw [HT2.out]; simp, by rw [HT3.out]; simp, by go_num, rfl, by omega, HBI.out⟩
                · by_cases h3 : ek = 3
                  · subst h3
                    go_wp2_with fail
                    go_roundg (el - (i + 1))
                    case measure => have := HGI.out; omega
                    case rel => exact ⟨i + 1, by rw [HT2.out]; simp, by rw [HT3.out]; simp, by go_num, rfl, by omega, HBI.out⟩
                  · go_wp2_with fail
                    go_roundg (el - (i + 1))
                    case measure => have := HGI.out; omega
                    case rel => exact ⟨i + 1, by rw [HT2.out, if_neg h2]; simp, by rw [HT3.out, if_neg h3]; simp, by go_num, rfl, by omega, HBI.out⟩
              · have hii : ¬ (i : Int) < (el : Int) := by omega
                have hfin : EE.take i = EE := List.take_of_length_le (by rw [HEL.out]; omega)
                rw [hfin] at n20 n21 n30 n31 ⊢
                rw [HE2.out, HE3.out] at *
                have hNb := HN6.out.later HBI.out HN6.out.lt
                have hKb := HK6.out.later HBI.out HK6.out.lt
                have m0 : wr.cell? ⟨w5.heap.size, 0, none⟩ = some (.int .i64 kk9) := hNb.cell 0
                have m2 : wr.cell? ⟨w5.heap.size, 2, none⟩ = some (.int .i64 dd9) := hNb.cell 2
                have m4 : wr.cell? ⟨w5.heap.size, 4, none⟩ = some (.int .i64 ll9) := hNb.cell 4
                have m8 : wr.cell? ⟨w5.heap.size, 8, none⟩ = some (.int .i64 hd9) := hNb.cell 8
                have mk : wr.cell? ⟨w1.heap.size, 0, none⟩ = some (.int .i64 c.lines) := hKb.cell 0
                have hNl := hNb.lt
                have hKl := hKb.lt
                clear hNb hKb hcb
                go_wp2_with fail
                go_ret
                exact ⟨rfl, (HB1.out.trans (HBK.out.mono hz1)).trans ((HB6.out.trans (HBI.out.mono HB6.out.size)).mono (by omega))⟩
          · have hcfg : Blk wc w1.heap.size #[.int .i64 c.lines, .int .i64 c.room, .int .i64 c.poll, .int .i64 c.idle, .int .i64 c.sw, .slice sa c.tasks.length scap] 26 := HK1.out.later b3 (by omega)
            have g6 : wc.cell? ⟨H, 6, none⟩ = some (.pointer (some ⟨X, 0, none⟩)) := p3.blk.cell 6
            have g0' : wc.cell? ⟨w1.heap.size, 0, none⟩ = some (.int .i64 c.lines) := hcfg.cell 0
            have hbw3 : Below w.heap.size w wc := (HB1.out.trans (HBK.out.mono hz1)).trans (b3.mono (by omega))
            have cs3 : wc.cell? ⟨bb, bo + q, none⟩ = some (.string s) := by
              have h1 := (hbw3.cell (p := ⟨bb, bo + q, none⟩) (show bb < w.heap.size by omega))
              have h2 := (HBLW.out.cell (p := ⟨bb, bo + q, none⟩) (show bb < w.heap.size by omega))
              rw [h1, ← h2]; exact cs
            have hbwc : bb < wc.heap.size := by omega
            have hHc := p3.blk.lt
            obtain ⟨cap5, w5, hcv, q5, rd5⟩ := conv_strB s wc.drew
            have hl0 : (c.lines == 0) = false := by simp; omega
            have hq5 : Below wc.heap.size wc w5 := ⟨q5.os, q5.tape, q5.output, q5.size, q5.block⟩
            have hz5 := hq5.size
            have g65 : w5.cell? ⟨H, 6, none⟩ = some (.pointer (some ⟨X, 0, none⟩)) := (hq5.cell (p := ⟨H, 6, none⟩) hHc).trans g6
            have g05 : w5.cell? ⟨w1.heap.size, 0, none⟩ = some (.int .i64 c.lines) := (hq5.cell (p := ⟨w1.heap.size, 0, none⟩) hcfg.lt).trans g0'
            have hw1c := hcfg.lt
            have cs5 : w5.cell? ⟨bb, bo + q, none⟩ = some (.string s) := (hq5.cell (p := ⟨bb, bo + q, none⟩) hbwc).trans cs3
            have p5 := p3.later hq5
            have p5' : Xec w5 (fun k => S k ∧ k < wc.heap.size) V.heap.size X x := (p3.xec.mono fun k hk e => ⟨e, hk⟩).same fun k hk => hq5.block k hk.2
            obtain ⟨hcf, hxf, hck, hd2, hd3, hdl⟩ := HRX.out
            have hn0 : 0 ≤ (q : Int) % c.lines := Int.emod_nonneg _ (by omega)
            have hn1 : (q : Int) % c.lines < c.lines := Int.emod_lt_of_pos _ (by omega)
            have hok := exFeed_ok (x := x) (n := (q : Int) % c.lines) (A := A) (bs := strB s) ⟨hn0, by rw [hcf]; exact hn1⟩ ⟨by omega, by omega, by omega⟩
            obtain ⟨N6, hfi, hfn⟩ := exFeed_in (line := (q : Int) % c.lines) (t := A) HIN.out (strB_in s)
            rw [if_pos hok.1, strB_length] at hfn
            have hfw := HWF.out N6 hfn
            have HFEED := hide (xFeed_any (fun k => S k ∧ k < wc.heap.size) V.heap.size X N0 ((q : Int) % c.lines) A x _ (strB s) w5 p5' (rd5 _ (fun e => Nat.lt_irrefl _ e.2)) (by rw [strB_length]; omega) (by omega) HIN.out)
            rw [hok.1] at HFEED
            obtain ⟨F, hF⟩ : ∃ F : World → Prop, F = (fun wx => ∃ x6 S6, HouP wx S6 V.heap.size H X x6 c (.slice sa c.tasks.length scap) 0 (.slice none 0 0) dv done ∧ (∀ k, S6 k → V.heap.size ≤ k) ∧ (∃ N, ExIn x6 N ∧ IntKind.i64.wrap N = FN) ∧ x6.cfg = c ∧ x6.fed = A ∧ x6.clock = x.clock ∧ x6.ct.done = x.ct.done ∧ x6.ct.lost = x.ct.lost ∧ Below V.heap.size V wx) := ⟨_, rfl⟩
            have HFF := hide hF
            have HREL : Hid (∀ w6, Xec w6 (fun k => (S k ∧ k < wc.heap.size) ∨ w5.heap.size ≤ k) V.heap.size X (exFeed x ((q : Int) % c.lines) A (strB s)).1 ∧ Fr (fun k => S k ∧ k < wc.heap.size) w5 w6 → F w6 ∧ w6.cell? ⟨H, 6, none⟩ = some (.pointer (some ⟨X, 0, none⟩)) ∧ w6.cell? ⟨w1.heap.size, 0, none⟩ = some (.int .i64 c.lines) ∧ w6.cell? ⟨bb, bo + q, none⟩ = some (.string s)) := fun w6 hh => by
              refine ⟨?_, (hh.2.cell (p := ⟨H, 6, none⟩) (by simp only; omega) (fun e => p5.nh e.1)).trans g65, (hh.2.cell (p := ⟨w1.heap.size, 0, none⟩) (by simp only; omega) (fun e => by have := HSS.out _ e.1; simp only at this; omega)).trans g05, (hh.2.cell (p := ⟨bb, bo + q, none⟩) (by simp only; omega) (fun e => by have := HSS.out _ e.1; simp only at this; omega)).trans cs5⟩
              rw [HFF.out]
              have p50 : HouP w5 (fun k => S k ∧ k < wc.heap.size) V.heap.size H X x c (.slice sa c.tasks.length scap) 0 (.slice none 0 0) dv done := ⟨p5.blk, p5', p5.ev, fun e => p5.nh e.1, fun k hk e => p5.nd k hk e.1, p5'.lt.2⟩
              refine ⟨_, _, p50.turn hh.1 hh.2 (fun k e => e), fun k e => e.elim (fun e => HSS.out k e.1) fun e => by omega, ⟨N6, hfi, hfw⟩, hok.2.1.trans hcf, hok.2.2.1, hok.2.2.2.1, hok.2.2.2.2.1, hok.2.2.2.2.2, ?_⟩
              exact (b3.trans (hq5.mono (by omega))).trans (hh.2.below (by omega) fun k e => HSS.out k e.1)
            have HB3 := hide b3
            have HAA := hide hA
            have HK3 := hide hcfg
            clear p3 b3 hA p5 p5' hcf hxf hck hd2 hd3 hdl hok hfi hfn hfw rd5 q5 hq5 hcfg hbw3 hF
            go_upto_region 15 with (fail)
            go_cut [20] (fun ev wx => ev = .int .i64 0 ∧ F wx)
            case first =>
              go_region_with (first
                | (go_at_call 15; refine HFEED.out.mono ?_; rintro e w6 ⟨rfl, hh⟩; obtain ⟨hF6, y6, y0, ys⟩ := HREL.out w6 hh; have HF6 := hide hF6; clear hh hF6))
              all_goals
                go_wp2_with fail
                go_meet
                case rel => exact ⟨rfl, HF6.out⟩
            case rest =>
              obtain ⟨rfl, hFx⟩ := hcut
              rw [HFF.out] at hFx
              obtain ⟨x6, S6, p6, hs6, ⟨N6, in6, hn6⟩, cf6, fd6, ck6, dn6, ls6, b6⟩ := hFx
              have hz6 := b6.size
              have hbw6 : Below w.heap.size w wc := (HB1.out.trans (HBK.out.mono hz1)).trans (b6.mono (by omega))
              have cs6 : wc.cell? ⟨bb, bo + q, none⟩ = some (.string s) := by
                have h1 := (hbw6.cell (p := ⟨bb, bo + q, none⟩) (show bb < w.heap.size by omega))
                have h2 := (HBLW.out.cell (p := ⟨bb, bo + q, none⟩) (show bb < w.heap.size by omega))
                rw [h1, ← h2]; exact cs
              have hbw6c : bb < wc.heap.size := by omega
              obtain ⟨hcf, hxf, hck, hd2, hd3, hdl⟩ := HRX.out
              have hXV6 : V.heap.size ≤ X := hs6 X p6.nx
              have hk60 := in6.ck0
              have HCL6 := hide (clock_any S6 V.heap.size H X _ x6 c _ 0 _ dv done wc p6 in6)
              have hrc := exRun_cnt (x6.clock + gap) 3000 in6
              have hri := exRun_in (x6.clock + gap) 3000 in6
              have hAA := HAA.out
              have hAc : x.clock ≤ A ∧ A < 1000 := by omega
              have hdl6 : (done.length : Int) ≤ 34 * x6.clock := by rw [ck6]; exact hdl
              have hc14 : (exRun (x6.clock + gap) 3000 x6).1.clock ≤ 1400 := by have := hrc.1; omega
              have HRUN := hide (fun (w3 : World) (p3 : HouP w3 S6 V.heap.size H X x6 c (.slice sa c.tasks.length scap) 0 (.slice none 0 0) dv done) (hb : V.heap.size ≤ w3.heap.size) => hrun_any S6 V.heap.size H X _ (x6.clock + gap) x6 c _ 0 _ dv done w3 p3 in6 hb (by have := hrc.2.2.2.2.1; omega))
              obtain ⟨F2, hF2⟩ : ∃ F : World → Prop, F = (fun wx => CntP V wx H X c (.slice sa c.tasks.length scap) FN A) := ⟨_, rfl⟩
              have HFF2 := hide hF2
              have HNO : Hid (F2 wc) := by
                rw [Hid, HFF2.out]
                exact ⟨⟨x6, S6, dv, done, p6, hs6, ⟨N6, in6, hn6⟩, cf6, by omega, by omega, by rw [dn6]; exact hd2, by rw [ls6]; exact hd3, hdl6⟩, hHV, by omega, by omega, b6⟩
              have HYES : Hid (∀ w3 w4 S4 dv4, HouP w4 S4 V.heap.size H X (exRun (x6.clock + gap) 3000 x6).1 c (.slice sa c.tasks.length scap) 0 (.slice none 0 0) dv4 (done ++ (exRun (x6.clock + gap) 3000 x6).2) → (∀ k, S4 k → S6 k ∨ w3.heap.size ≤ k) → Fr (fun k => S6 k ∨ k = H ∨ dv.ownBlock = some k) w3 w4 → HouP w3 S6 V.heap.size H X x6 c (.slice sa c.tasks.length scap) 0 (.slice none 0 0) dv done → Below V.heap.size V w3 → F2 w4) := fun w3 w4 S4 dv4 p4 s4 f4 p3 b3 => by
                rw [HFF2.out]
                have hz3 := b3.size
                refine ⟨⟨_, S4, dv4, _, p4, fun k hk => (s4 k hk).elim (fun h => hs6 k h) fun h => by omega, ⟨N6, hri, hn6⟩, hrc.2.2.2.2.2.2.trans cf6, by rw [hrc.2.2.2.2.2.1, fd6]; exact Int.le_refl _, hc14, ?_, ?_, ?_⟩, hHV, by omega, by omega, b3.trans (f4.below hz3 ?_)⟩
                · rw [cnt_append, hrc.2.2.1, hd2, dn6]; omega
                · rw [cnt_append, hrc.2.2.2.1, hd3, ls6]; omega
                · rw [List.length_append]; have := hrc.2.2.2.2.1; omega
                · rintro k (h | h | h)
                  · exact hs6 k h
                  · omega
                  · exact (ownsRow_lt p3.ev h).1
              generalize exRun (x6.clock + gap) 3000 x6 = RR at *
              have HP6 := hide p6
              have HB6 := hide b6
              have hk6 : x6.clock ≤ 1000 := by omega
              clear p6 hs6 in6 hn6 cf6 fd6 ck6 dn6 ls6 b6 hbw6 hcf hxf hck hd2 hd3 hdl hrc hri hAA hF2 hdl6 hc14
              go_upto_if 87 with (fail)
              go_cut [] (fun wx => F2 wx)
              case first =>
                by_cases hg3 : gap % 3 = 0
                · go_wp2_with fail
                  refine HCL6.out.mono ?_
                  rintro e w3 ⟨rfl, p3, f3⟩
                  have b3 : Below V.heap.size V w3 := HB6.out.trans (f3.below hz6 fun k hk => by omega)
                  have HP3 := hide p3
                  have HB3' := hide b3
                  have HR3 := hide (HRUN.out w3 p3 b3.size)
                  clear p3 f3 b3
                  go_wp2_with fail
                  refine HR3.out.mono ?_
                  rintro e w4 ⟨rfl, ⟨S4, dv4, p4, s4, o4⟩, f4⟩
                  have HF4 := hide (HYES.out w3 w4 S4 dv4 p4 s4 f4 HP3.out HB3'.out)
                  clear p4 s4 o4 f4
                  go_wp2
                  go_meet
                  case rel => exact HF4.out
                · have hg3b : (gap % 3 == 0) = false := by simp [hg3]
                  go_wp2
                  go_meet
                  case rel => exact HNO.out
              case rest =>
                rw [HFF2.out] at hcut
                have HC7 := hide hcut
                obtain ⟨⟨x7, S7, dv7, done7, p7, hs7, ⟨N7, in7, hn7⟩, cf7, xf7, ck7, d27, d37, dl7⟩, -, ha07, ha17, b7⟩ := hcut
                have HCT := hide (xCounts_any S7 V.heap.size X _ x7 wc p7.xec in7)
                have hz7 := b7.size
                have hK7 := HK1.out.later b7 (by omega)
                have g67 : wc.cell? ⟨H, 6, none⟩ = some (.pointer (some ⟨X, 0, none⟩)) := p7.blk.cell 6
                have hHc7 := p7.blk.lt
                have e1 := in7.rd.tot
                have e2 := in7.rd.dn
                have e3 := in7.rd.nj
                have e4 := held_le x7.lines fun l hl => (in7.ln l hl).len
                have e5 := in7.nl
                have e6 := in7.sp0
                have e7 := in7.rd.b0
                have e8 := in7.rd.l0
                have e9 := in7.rd.u0
                have e10 := in7.rd.d0
                have e11 := held_nonneg x7.lines
                have e12 := in7.read
                rw [cf7] at e3 e5
                simp only at e1 e2 e3 e7 e8 e9 e10
                have HREL : Hid (∀ w8, Xec w8 S7 V.heap.size X x7 ∧ Fr (fun k => k = X) wc w8 → CntP V w8 H X c (.slice sa c.tasks.length scap) FN A ∧ Below V.heap.size wc w8) := fun w8 hh => by
                  have hXV7 : V.heap.size ≤ X := hs7 X p7.nx
                  have hb8 : Below V.heap.size wc w8 := hh.2.below hz7 fun k hk => by omega
                  exact ⟨⟨⟨x7, S7, dv7, done7, p7.turn hh.1 (hh.2.mono fun k _ e => by subst e; exact p7.nx) (fun k e => .inl e), hs7, ⟨N7, in7, hn7⟩, cf7, xf7, ck7, d27, d37, dl7⟩, hHV, ha07, ha17, b7.trans hb8⟩, hb8⟩
                have HKK := hide hK7
                have hKl := hK7.lt
                simp only [countsV] at HCT
                have hhd : held x7.lines ≤ c.lines * 32 := by omega
                generalize held x7.lines = hd at *
                generalize x7.clock = kk at *
                generalize x7.ct.jobs = jj at *
                generalize x7.ct.done = dd at *
                generalize x7.ct.lost = ll at *
                generalize x7.ct.unknown = uu at *
                generalize x7.ct.bad = bd at *
                generalize x7.ct.spilled = sp at *
                generalize x7.jobs.length = wt at *
                have f1 : sp + hd + bd + 4 * (jj + ll + uu) = N7 := by omega
                have f0 : bd + 4 * (jj + ll + uu) ≤ 421632 := by omega
                obtain ⟨S1, hw1⟩ : ∃ S1, IntKind.i64.wrap (sp + hd) = S1 := ⟨_, rfl⟩
                obtain ⟨S2, hw2⟩ : ∃ S2, IntKind.i64.wrap (S1 + bd) = S2 := ⟨_, rfl⟩
                have hw3 : IntKind.i64.wrap (S2 + 4 * (jj + ll + uu)) = FN := by
                  rw [← hn7, ← f1, ← hw2, ← hw1, wrap_add_left, Int.add_assoc (IntKind.i64.wrap (sp + hd)), wrap_add_left, ← Int.add_assoc]
                have f2 : dd + (wt : Int) = jj := by omega
                have f3 : ¬ c.room < (wt : Int) := by omega
                have f4 : ¬ c.lines * 32 < hd := by omega
                have f7 : hd ≤ 100000000 := by omega
                have f8 : bd ≤ 100000000 := by omega
                have f9 : jj ≤ 100000000 := by omega
                have f10 : ll ≤ 100000000 := by omega
                have f11 : uu ≤ 100000000 := by omega
                have f12 : 0 ≤ jj := by omega
                have f13 : dd ≤ 100000000 := by omega
                have f14 : (wt : Int) ≤ 40 := by omega
                have f15 : c.lines * 32 ≤ 128 := by omega
                clear f1 e12 e1 e2 e3 e4 e5 p7 hs7 in7 hn7 cf7 xf7 d27 d37 dl7 b7 hK7
                go_wp2_with fail
                refine HCT.out.mono ?_
                rintro e w8 ⟨rfl, hh⟩
                obtain ⟨hC8, hb8⟩ := HREL.out w8 hh
                have hz8 := hb8.size
                have hK8 := HKK.out.later (hb8.mono (B' := w1.heap.size + 1) (by omega)) (by omega)
                have k80 : w8.cell? ⟨w1.heap.size, 0, none⟩ = some (.int .i64 c.lines) := hK8.cell 0
                have k81 : w8.cell? ⟨w1.heap.size, 1, none⟩ = some (.int .i64 c.room) := hK8.cell 1
                have hw18 := hK8.lt
                have HC8 := hide hC8
                clear hC8 hb8 hh hK8
                go_wp2_with fail
                go_roundg (sl - (q + 1))
                case measure => have := HGK.out; omega
                case rel => exact ⟨q + 1, FN, A, rfl, rfl, by go_num, rfl, by omega, HC8.out.later ((Below.refl _ _).alloc (Nat.le_refl _) _)⟩
    · have hqi : ¬ (q : Int) < (sl : Int) := by omega
      have hCE : CntP V wr H X c (.slice sa c.tasks.length scap) fedN at' := ⟨⟨x, S, dv, done, p, hS, ⟨N0, hin, HN0.out⟩, hcf, hxf, hck, hd2, hd3, hdl⟩, hHV, ha0, ha1, hbel⟩
      clear p hS hin hcf hxf hck hd2 hd3 hdl hbel
      obtain ⟨⟨x7, S7, dv7, done7, p7, hs7, ⟨N7, in7, hn7⟩, cf7, xf7, ck7, d27, d37, dl7⟩, -, ha07, ha17, b7⟩ := hCE
      have hz7 := b7.size
      have hrc := exRun_cnt 3000 3000 in7
      have hri := exRun_in 3000 3000 in7
      have hre := exRun_end 3000 3000 in7 (by have := in7.ck0; omega)
      have hrs := exRun_short 3000 in7 (.inr (by omega))
      have hkz := in7.ck0
      have HRUN := hide (hrun_any S7 V.heap.size H X N7 3000 x7 c _ 0 _ dv7 done7 wr p7 in7 hz7 (by have := hrc.2.2.2.2.1; have := hri.ck1; omega))
      generalize exRun 3000 3000 x7 = RR at *
      obtain ⟨x9, es9⟩ := RR
      simp only at hrc hri hre hrs HRUN
      obtain ⟨r1, r2, r3, r4, r5, r6, r7⟩ := hrc
      have h9s : ∀ l ∈ x9.lines, l.length ≤ 3 := by
        rcases hrs with h | h
        · exact h
        · have : min (3000 : Int) 3000 = 3000 := by decide
          omega
      have h9h := held_short x9.lines h9s
      have h9n := hri.nl
      rw [r7, cf7] at h9n
      have h9c : (3000 : Int) ≤ x9.clock := by have : min (3000 : Int) 3000 = 3000 := by decide
                                               omega
      have hE2 : cnt 2 (done7 ++ es9) = x9.ct.done := by rw [cnt_append, r3, d27]; omega
      have hE3 : cnt 3 (done7 ++ es9) = x9.ct.lost := by rw [cnt_append, r4, d37]; omega
      have hdl9 : (done7 ++ es9).length ≤ 200000 := by have := hri.ck1; rw [List.length_append]; omega
      have HCT := hide (fun (w4 : World) (S4 : Nat → Prop) (x4 : Xec w4 S4 V.heap.size X x9) => xCounts_any S4 V.heap.size X _ x9 w4 x4 hri)
      have HHV7 := hide (And.intro hs7 b7)
      have hdvl : ∀ k, dv7.ownBlock = some k → V.heap.size ≤ k := fun k hk => (ownsRow_lt p7.ev hk).1
      have HDVL := hide hdvl
      have hHl7 := p7.blk.lt
      simp only [countsV] at HCT
      have hhd9 : held x9.lines ≤ 3 * c.lines := by omega
      generalize held x9.lines = hd9 at *
      generalize x9.clock = kk9 at *
      generalize x9.ct.jobs = jj9 at *
      generalize x9.ct.done = dd9 at *
      generalize x9.ct.lost = ll9 at *
      generalize x9.ct.unknown = uu9 at *
      generalize x9.ct.bad = bd9 at *
      generalize x9.ct.spilled = sp9 at *
      generalize x9.jobs.length = wt9 at *
      generalize hES : done7 ++ es9 = EE at *
      have HE2 := hide hE2
      have HE3 := hide hE3
      clear p7 hs7 in7 cf7 xf7 d27 d37 dl7 b7 hri hre hrs r1 r2 r3 r4 r5 r6 r7 h9s h9h h9n hE2 hE3 hdvl hkz ck7 hES
      go_wp2_with fail
      refine HRUN.out.mono ?_
      rintro e w4 ⟨rfl, ⟨S4, dv4, p4, s4, o4⟩, f4⟩
      have b4 : Below V.heap.size V w4 := HHV7.out.2.trans (f4.below hz7 (by
        rintro k (h | h | h)
        · exact HHV7.out.1 k h
        · omega
        · exact HDVL.out k h))
      have hz4 := b4.size
      have g64 : w4.cell? ⟨H, 6, none⟩ = some (.pointer (some ⟨X, 0, none⟩)) := p4.blk.cell 6
      have hXV4 : V.heap.size ≤ X := by
        rcases s4 X p4.nx with h | h
        · exact HHV7.out.1 X h
        · omega
      have HC4 := hide (HCT.out w4 S4 p4.xec)
      have HP4 := hide p4
      have HB4 := hide b4
      clear p4 s4 o4 f4 b4 HRUN
      go_wp2_with fail
      refine HC4.out.mono ?_
      rintro e w5 ⟨rfl, x5, f5⟩
      have p5 : HouP w5 S4 V.heap.size H X x9 c (.slice sa c.tasks.length scap) 0 (.slice none 0 0) dv4 EE := HP4.out.turn x5 (f5.mono fun k _ e => by subst e; exact HP4.out.nx) (fun k e => .inl e)
      have b5 : Below V.heap.size V w5 := HB4.out.trans (f5.below hz4 fun k hk => by omega)
      have hz5 := b5.size
      obtain ⟨da, dc, hdv⟩ := ownsRow_slice p5.ev
      generalize hEL : EE.length = el at *
      have HEL := hide hEL
      subst hdv
      have hb6 : Below w5.heap.size w5 (w5.alloc (.cells #[.int .i64 kk9, .int .i64 jj9, .int .i64 dd9, .int .i64 wt9, .int .i64 ll9, .int .i64 uu9, .int .i64 bd9, .int .i64 sp9, .int .i64 hd9] 50)) := (Below.refl _ _).alloc (Nat.le_refl _) _
      have HP6 := hide (p5.later hb6)
      have HK6 := hide (HK1.out.later (b5.trans (hb6.mono (by omega))) (by omega))
      have HN6 := hide (Blk.new w5 #[.int .i64 kk9, .int .i64 jj9, .int .i64 dd9, .int .i64 wt9, .int .i64 ll9, .int .i64 uu9, .int .i64 bd9, .int .i64 sp9, .int .i64 hd9] 50)
      have HB6 : Hid (Below V.heap.size V (w5.alloc (.cells #[.int .i64 kk9, .int .i64 jj9, .int .i64 dd9, .int .i64 wt9, .int .i64 ll9, .int .i64 uu9, .int .i64 bd9, .int .i64 sp9, .int .i64 hd9] 50))) := b5.trans (hb6.mono (by omega))
      clear p5 b5 x5 f5 hEL hb6 HC4 HP4 HB4
      go_wp2_with fail
      generalize w5.alloc (.cells #[.int .i64 kk9, .int .i64 jj9, .int .i64 dd9, .int .i64 wt9, .int .i64 ll9, .int .i64 uu9, .int .i64 bd9, .int .i64 sp9, .int .i64 hd9] 50) = W6 at *
      go_loopg [23, 24, 25] el (fun g dnv lsv iv wr => ∃ i : Nat, dnv = .int .i64 (cnt 2 (EE.take i)) ∧ lsv = .int .i64 (cnt 3 (EE.take i)) ∧ iv = .int .i64 i ∧ g = el - i ∧ i ≤ el ∧ Below W6.heap.size W6 wr)
      case atStart => exact ⟨0, by simp [cnt], by simp [cnt], rfl, by omega, Nat.zero_le _, Below.refl _ _⟩
      case round =>
        obtain ⟨i, rfl, rfl, rfl, hgi, hie, hbi⟩ := hrel
        have HGI := hide hgi
        have HBI := hide hbi
        have hszi := hbi.size
        have hHl := HP6.out.blk.lt
        have y9 : wr.cell? ⟨H, 9, none⟩ = some (.slice da el dc) := (HP6.out.blk.later hbi hHl).cell 9
        have hHr : H < wr.heap.size := by omega
        have hcb : ∀ k j, cnt k (EE.take j) ≤ 200000 ∧ 0 ≤ cnt k (EE.take j) := fun k j => by
          have h1 : (EE.take j).countP (fun e => decide (e.kind = k)) ≤ (EE.take j).length := List.countP_le_length
          have h2 : (EE.take j).length ≤ EE.length := by rw [List.length_take]; omega
          unfold cnt
          rw [HEL.out] at h2
          omega
        obtain ⟨n21, n20⟩ := hcb 2 i
        obtain ⟨n31, n30⟩ := hcb 3 i
        clear hgi hbi
        by_cases hil : i < el
        · have hii : (i : Int) < (el : Int) := by omega
          obtain ⟨ev, hev⟩ := get_of_lt (l := EE) (k := i) (by rw [HEL.out]; exact hil)
          obtain ⟨dg, dcap, hdv, -, -⟩ := ownsRow_some HP6.out.ev (by rw [HEL.out]; omega)
          rw [HEL.out] at hdv
          simp only [Value.slice.injEq, true_and] at hdv
          obtain ⟨rfl, rfl⟩ := hdv
          have hdgl : dg < W6.heap.size := (ownsRow_lt HP6.out.ev (k := dg) rfl).2
          have y0 : wr.cell? ⟨dg, i * 5, none⟩ = some (.int .i64 ev.kind) := by
            have h5 : ∀ c ∈ EE.map evCells, c.length = 5 := by
              intro c hc
              obtain ⟨j, _, rfl⟩ := List.mem_map.1 hc
              rfl
            have hg : (erow EE)[i * 5 + 0]? = some (.int .i64 ev.kind) := by
              rw [erow, flatten_get h5 i 0 (by decide), List.getElem?_map, hev]
              rfl
            have h1 := World.ownsRow.cells (g := dg) HP6.out.ev (by rfl) (i * 5 + 0) _ hg
            rw [Nat.add_zero, Addr.add] at h1
            have h2 : W6.cell? ⟨dg, i * 5, none⟩ = some (.int .i64 ev.kind) := by
              split at h1
              · rename_i h0; rw [h0]; exact h1
              · simpa using h1
            exact (HBI.out.cell (p := ⟨dg, i * 5, none⟩) hdgl).trans h2
          have hdgr : dg < wr.heap.size := by omega
          have HT2 : Hid (cnt 2 (EE.take (i + 1)) = cnt 2 (EE.take i) + (if ev.kind = 2 then 1 else 0)) := by
            rw [Hid, take_snoc hev, cnt_append, cnt_one]
          have HT3 : Hid (cnt 3 (EE.take (i + 1)) = cnt 3 (EE.take i) + (if ev.kind = 3 then 1 else 0)) := by
            rw [Hid, take_snoc hev, cnt_append, cnt_one]
          obtain ⟨ek, e1', e2', e3', e4'⟩ := ev
          simp only at y0 HT2 HT3
          generalize cnt 2 (EE.take i) = n2 at *
          generalize cnt 3 (EE.take i) = n3 at *
          clear hev hcb
          by_cases h2 : ek = 2
          · subst h2
            go_wp2_with fail
            go_roundg (el - (i + 1))
            case measure => have := HGI.out; omega
            case rel => exact ⟨i + 1, by rw [HT2.out]; simp, by rw [HT3.out]; simp, by go_num, rfl, by omega, HBI.out⟩
          · by_cases h3 : ek = 3
            · subst h3
              go_wp2_with fail
              go_roundg (el - (i + 1))
              case measure => have := HGI.out; omega
              case rel => exact ⟨i + 1, by rw [HT2.out]; simp, by rw [HT3.out]; simp, by go_num, rfl, by omega, HBI.out⟩
            · go_wp2_with fail
              go_roundg (el - (i + 1))
              case measure => have := HGI.out; omega
              case rel => exact ⟨i + 1, by rw [HT2.out, if_neg h2]; simp, by rw [HT3.out, if_neg h3]; simp, by go_num, rfl, by omega, HBI.out⟩
        · have hii : ¬ (i : Int) < (el : Int) := by omega
          have hfin : EE.take i = EE := List.take_of_length_le (by rw [HEL.out]; omega)
          rw [hfin] at n20 n21 n30 n31 ⊢
          rw [HE2.out, HE3.out] at *
          have hNb := HN6.out.later HBI.out HN6.out.lt
          have hKb := HK6.out.later HBI.out HK6.out.lt
          have m0 : wr.cell? ⟨w5.heap.size, 0, none⟩ = some (.int .i64 kk9) := hNb.cell 0
          have m2 : wr.cell? ⟨w5.heap.size, 2, none⟩ = some (.int .i64 dd9) := hNb.cell 2
          have m4 : wr.cell? ⟨w5.heap.size, 4, none⟩ = some (.int .i64 ll9) := hNb.cell 4
          have m8 : wr.cell? ⟨w5.heap.size, 8, none⟩ = some (.int .i64 hd9) := hNb.cell 8
          have mk : wr.cell? ⟨w1.heap.size, 0, none⟩ = some (.int .i64 c.lines) := hKb.cell 0
          have hNl := hNb.lt
          have hKl := hKb.lt
          clear hNb hKb hcb
          go_wp2_with fail
          go_ret
          exact ⟨rfl, (HB1.out.trans (HBK.out.mono hz1)).trans ((HB6.out.trans (HBI.out.mono HB6.out.size)).mono (by omega))⟩

end Go.Proofs.Ythloffgebebijaa
