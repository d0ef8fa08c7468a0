/- PieE: the walk of tillerkeep.Pieces: it answers true. -/
import Derived.Test.YthloffgebebijaaPieD
import Derived.Test.YthloffgebebijaaMath
import Derived.Deep.DeepCutAuto
import Derived.Deep.LoopGhost
import Derived.Deep.RegionHeld
import Derived.Deep.DrawnRows
namespace Go.Proofs.Ythloffgebebijaa
open Go.RowKit Go.MuLone
attribute [local go_sem ↓] Go.wp_at_zero Go.wp_at_succ

set_option maxRecDepth 100000 in
set_option maxHeartbeats 20000000 in
theorem pieces_true (lines room price : Int) (vr vb vt : Value) (rs : List Raw5) (ss : List ByteArray) (ts : List Int) (B : Nat) (w : World) (h1 : In64 lines) (h2 : In64 room) (h3 : In64 price)
    (hvr : Raws w B vr rs) (hvb : StrsR w B vb ss) (hvt : IntsK w B vt ts) (hB : B ≤ w.heap.size) (hr : ∀ r ∈ rs, r.fits) (hlen : rs.length ≤ 140737488355328) (hsl : ss.length ≤ 140737488355328) (_htl : ts.length ≤ 140737488355328) (hti : ∀ t ∈ ts, In64 t) (hsum : ∀ s ∈ ss, s.size ≤ 140737488355328) :
    Calls Try.prog 6 #[.int .i64 lines, .int .i64 room, .int .i64 price, vr, vb, vt] w fun e w' => e = .returned (.bool true) ∧ Below w.heap.size w w' := by
  have HS := hide (settings_false lines room price vr rs B w h1 h2 h3 hvr hB hr hlen)
  have HOK := hide (mkCfg_ok lines room price rs false)
  generalize mkCfg lines room price rs false = c at *
  obtain ⟨ra, rcap, rfl, -⟩ := hvr
  obtain ⟨ba, bcap, rfl, hb⟩ := hvb
  obtain ⟨ta, tcap, rfl, ht⟩ := hvt
  have HB := hide hb
  have HT := hide ht
  have HTI := hide hti
  have HSUM := hide hsum
  generalize hrl : rs.length = rl at *
  generalize hSL : ss.length = sl at *
  generalize hTL : ts.length = tl at *
  have HSL := hide hSL
  have HTL := hide hTL
  obtain ⟨⟨c1, c2⟩, ⟨c3, c4⟩, ⟨c5, c6⟩, ⟨c7, c8⟩, ⟨c9, c10⟩, ⟨c11, c12⟩, c13⟩ := cfgNum HOK.out
  clear h1 h2 h3 hr hb ht hti hsum hrl hSL hTL c13
  go_enter Try.func6, Try.ntmps6
  go_wp2_with fail
  refine HS.out.mono ?_
  rintro e w1 ⟨v1, rfl, cf1, b1⟩
  obtain ⟨s1, rfl, t1⟩ := cf1
  obtain ⟨sa, scap, rfl⟩ := t1.slice
  have hz1 := b1.size
  have hbk : Below w1.heap.size w1 (w1.alloc (.cells #[.int .i64 c.lines, .int .i64 c.room, .int .i64 c.poll, .int .i64 c.idle, .int .i64 c.sw, .slice sa c.tasks.length scap] 26)) := (Below.refl _ _).alloc (Nat.le_refl _) _
  have hT1 := t1.later hbk (Nat.le_refl _)
  have HOP := hide (opened_any w1.heap.size c sa scap _ hT1 (by simp) HOK.out)
  have HT1 := hide hT1
  have HB1 := hide b1
  have hk1 := (Blk.new w1 #[.int .i64 c.lines, .int .i64 c.room, .int .i64 c.poll, .int .i64 c.idle, .int .i64 c.sw, .slice sa c.tasks.length scap] 26)
  have HK1 := hide hk1
  have hzk : (w1.alloc (.cells #[.int .i64 c.lines, .int .i64 c.room, .int .i64 c.poll, .int .i64 c.idle, .int .i64 c.sw, .slice sa c.tasks.length scap] 26)).heap.size = w1.heap.size + 1 := by simp
  have HZK := hide hzk
  have HBK := hide hbk
  clear t1 b1 HS hzk hbk hT1 hk1
  go_wp2_with fail
  refine HOP.out.mono ?_
  generalize w1.alloc (.cells #[.int .i64 c.lines, .int .i64 c.room, .int .i64 c.poll, .int .i64 c.idle, .int .i64 c.sw, .slice sa c.tasks.length scap] 26) = V at *
  rintro e w2 ⟨H, X, S, rfl, p2, s2, hH2, q2⟩
  have hzv : w1.heap.size < V.heap.size := by rw [HZK.out]; omega
  have hz2 := q2.size
  have HH2 := hide (opened1 p2 s2 hH2 rfl)
  have HQ2 := hide q2
  have hk2 := HK1.out.later q2 hzv
  have n0 : w2.cell? ⟨w1.heap.size, 0, none⟩ = some (.int .i64 c.lines) := hk2.cell 0
  have n1 : w2.cell? ⟨w1.heap.size, 1, none⟩ = some (.int .i64 c.room) := hk2.cell 1
  have n2 : w2.cell? ⟨w1.heap.size, 2, none⟩ = some (.int .i64 c.poll) := hk2.cell 2
  have n3 : w2.cell? ⟨w1.heap.size, 3, none⟩ = some (.int .i64 c.idle) := hk2.cell 3
  have n4 : w2.cell? ⟨w1.heap.size, 4, none⟩ = some (.int .i64 c.sw) := hk2.cell 4
  have n5 : w2.cell? ⟨w1.heap.size, 5, none⟩ = some (.slice sa c.tasks.length scap) := hk2.cell 5
  have hwl := hk2.lt
  have HOP2 := hide (opened_any w1.heap.size c sa scap w2 (HT1.out.later q2 (by omega)) (by omega) HOK.out)
  clear p2 s2 hH2 q2 HOP hk2
  go_wp2_with fail
  refine HOP2.out.mono ?_
  rintro e w3 ⟨G, Y, S3, rfl, p3, s3, hH3, q3⟩
  have hz3 := q3.size
  have HST : Hid (PieP V w3 w2.heap.size H X G Y c (.slice sa c.tasks.length scap) 1400 0) := by
    have h2 := opened1 p3 s3 hH3 rfl
    have h1 := (HH2.out.later q3)
    refine ⟨⟨exNew c, exNew c, [], ⟨⟨_, _, h1, h2, fun k hk => ⟨hk.1, fun e => by omega⟩, fun k hk => by omega⟩, by omega, by omega, by omega⟩, alike.refl _, ⟨_, exNew_in HOK.out⟩, ⟨_, exNew_in HOK.out⟩, rfl, Int.le_refl _, Int.le_refl _, by simp [exNew], by simp [exNew]⟩, HQ2.out.trans (q3.mono hz2)⟩
  clear p3 s3 hH3 q3 HOP2 n0 n1 n2 n3 n4 n5 hwl
  go_wp2_with fail
  go_loopg [18, 19] sl (fun g av iv wr => ∃ (q : Nat) (at' : Int), av = .int .i64 at' ∧ iv = .int .i64 q ∧ g = sl - q ∧ q ≤ sl ∧ 0 ≤ at' ∧ at' < 1000 ∧ PieP V wr w2.heap.size H X G Y c (.slice sa c.tasks.length scap) 1400 at')
  case atStart => exact ⟨0, 0, rfl, rfl, by omega, Nat.zero_le _, by omega, by omega, HST.out⟩
  case round =>
    obtain ⟨q, at', rfl, rfl, hgk, hq, ha0, ha1, hst⟩ := hrel
    have HGK := hide hgk
    have HP := hide hst
    have hzr := hst.bel.size
    clear hgk hst HST
    obtain ⟨WO, hwo⟩ : ∃ W, W = wr := ⟨_, rfl⟩
    subst hwo
    by_cases hlt : q < sl
    · have hqi : (q : Int) < (sl : Int) := by omega
      obtain ⟨s, hs⟩ := get_of_lt (l := ss) (k := q) (by rw [HSL.out]; exact hlt)
      rcases HB.out with he | ⟨bb, bo, rfl, hbb, hbc⟩
      · rw [he] at hs; simp at hs
      have HCS : Hid (∀ w', Below V.heap.size V w' → w'.cell? ⟨bb, bo + q, none⟩ = some (.string s) ∧ bb < w'.heap.size ∧ w'.cell? ⟨w1.heap.size, 0, none⟩ = some (.int .i64 c.lines) ∧ w1.heap.size < w'.heap.size) := fun w' hb => by
        have hbw : Below w.heap.size w w' := (HB1.out.trans (HBK.out.mono hz1)).trans (hb.mono (by omega))
        have hsz := hb.size
        have hkk := HK1.out.later hb hzv
        exact ⟨(hbw.cell (p := ⟨bb, bo + q, none⟩) (show bb < w.heap.size by omega)).trans (hbc q s hs), by omega, hkk.cell 0, hkk.lt⟩
      have hsz : s.size ≤ 140737488355328 := HSUM.out s (List.mem_of_getElem? hs)
      clear hbc hs
      go_upto_if 59 with (fail)
      go_cut [18] (fun av wx => ∃ A : Int, av = .int .i64 A ∧ at' ≤ A ∧ A ≤ at' + 40 ∧ WO = wx)
      case first =>
        by_cases hqt : q < tl
        · have hti : (q : Int) < (tl : Int) := by omega
          obtain ⟨t, htk⟩ := get_of_lt (l := ts) (k := q) (by rw [HTL.out]; exact hqt)
          rcases HT.out with he | ⟨tb, tof, rfl, htb, htc⟩
          · rw [he] at htk; simp at htk
          have hbw : Below w.heap.size w WO := (HB1.out.trans (HBK.out.mono hz1)).trans (HP.out.bel.mono (by omega))
          have ct : WO.cell? ⟨tb, tof + q, none⟩ = some (.int .i64 t) := (hbw.cell (p := ⟨tb, tof + q, none⟩) (by simp; omega)).trans (htc q t htk)
          have htbw : tb < WO.heap.size := by omega
          have HPK := hide (keepPick_any t 40 WO (HTI.out t (List.mem_of_getElem? htk)) (by decide) (by decide))
          have g0 := pk_lo t 40 (by decide)
          have g1 := pk_hi t 40 (by decide)
          clear htc htk hbw
          go_wp2_with fail
          refine HPK.out.mono ?_
          rintro e w' ⟨rfl, rfl⟩
          generalize pk t 40 = gap at *
          go_wp2
          go_meet
          case rel => exact ⟨at' + gap, by go_num, by omega, by omega, rfl⟩
        · have hti : ¬ (q : Int) < (tl : Int) := by omega
          go_wp2
          go_meet
          case rel => exact ⟨at', rfl, by omega, by omega, rfl⟩
      case rest =>
        obtain ⟨A, rfl, hA0, hA1, rfl⟩ := hcut
        by_cases hA : 1000 ≤ A
        · have hA' : (1000 : Int) ≤ A := hA
          have HCE := HP
          obtain ⟨wt, hwt⟩ : ∃ W, W = WO := ⟨_, rfl⟩
          subst hwt
          have HRUN := hide (HCE.out.run (u := 1500) (L' := 1800) (by omega) (by omega))
          go_wp2_with fail
          refine HRUN.out.mono ?_
          rintro e w4 ⟨kk, rfl, st4⟩
          have HCL := hide st4.clock
          clear st4 HRUN
          go_wp2_with fail
          refine HCL.out.mono ?_
          rintro e w5 ⟨rfl, st5⟩
          have HS5 := hide st5
          have k0 := st5.k0
          have k1 := st5.k1
          clear st5 HCL
          go_wp2_with fail
          go_loopg [23] (3300 - kk).toNat (fun g nv wr => ∃ k : Int, nv = .int .i64 k ∧ g = (3300 - k).toNat ∧ StpP V wr w2.heap.size H X G Y c (.slice sa c.tasks.length scap) 1800 1500 at' k)
          case atStart => exact ⟨kk, rfl, rfl, HS5.out⟩
          case round =>
            obtain ⟨k, rfl, hg, hs⟩ := hrel
            have HG := hide hg
            have k2 := hs.k0
            have k3 := hs.k1
            clear hg HS5
            by_cases hk : k < 1500
            · have HR := hide (hs.step hk (by omega))
              clear hs
              go_wp2_with fail
              refine HR.out.mono ?_
              rintro e w6 ⟨k6, rfl, hk6, s6⟩
              have HC6 := hide s6.clock
              clear s6 HR
              go_wp2_with fail
              refine HC6.out.mono ?_
              rintro e w7 ⟨rfl, s7⟩
              have HS7 := hide s7
              clear s7 HC6
              go_wp2_with fail
              go_roundg (3300 - k6).toNat
              case measure => have := HG.out; omega
              case rel => exact ⟨k6, rfl, rfl, HS7.out⟩
            · have hp := hs.end (by omega)
              obtain ⟨d, hdl, da, dc, ea, ec, r1, r2, hHl, hGl, hrow⟩ := hp.rows
              have HPP := hide hp
              have HROW := hide hrow
              generalize hdn : d.length = dn at *
              have HDN := hide hdn
              obtain ⟨WT, hwT⟩ : ∃ W, W = wr := ⟨_, rfl⟩
              subst hwT
              clear hs hp hrow hdn
              go_wp2_with fail
              go_quiet ((fail))
              go_wp2_with fail
              go_loopg [24] dn (fun g iv wr => ∃ i : Nat, iv = .int .i64 i ∧ g = dn - i ∧ i ≤ dn ∧ Below WT.heap.size WT wr)
              case atStart => exact ⟨0, rfl, by omega, Nat.zero_le _, below_drewN (Below.refl _ _) nq⟩
              case round =>
                obtain ⟨i, rfl, hgi, hie, hbi⟩ := hrel
                have HGI := hide hgi
                have HBI := hide hbi
                have hszi := hbi.size
                have y1 : wr.cell? ⟨H, 9, none⟩ = some (.slice da dn dc) := (hbi.cell (p := ⟨H, 9, none⟩) hHl).trans r1
                have y2 : wr.cell? ⟨G, 9, none⟩ = some (.slice ea dn ec) := (hbi.cell (p := ⟨G, 9, none⟩) hGl).trans r2
                have hHr : H < wr.heap.size := by omega
                have hGr : G < wr.heap.size := by omega
                clear hgi hbi
                by_cases hil : i < dn
                · have hii : (i : Int) < (dn : Int) := by omega
                  obtain ⟨ev, hev⟩ := get_of_lt (l := d) (k := i) (by rw [HDN.out]; exact hil)
                  obtain ⟨dg, eg, rfl, rfl, hdg, heg, ⟨a0, a1, a2, a3, a4⟩, b0, b1, b2, b3, b4⟩ := HROW.out i ev hev
                  have m0 := (HBI.out.cell (p := ⟨dg, i * 5, none⟩) hdg).trans a0
                  have m1 := (HBI.out.cell (p := ⟨dg, i * 5 + 1, none⟩) hdg).trans a1
                  have m2 := (HBI.out.cell (p := ⟨dg, i * 5 + 2, none⟩) hdg).trans a2
                  have m3 := (HBI.out.cell (p := ⟨dg, i * 5 + 3, none⟩) hdg).trans a3
                  have m4 := (HBI.out.cell (p := ⟨dg, i * 5 + 4, none⟩) hdg).trans a4
                  have l0 := (HBI.out.cell (p := ⟨eg, i * 5, none⟩) heg).trans b0
                  have l1 := (HBI.out.cell (p := ⟨eg, i * 5 + 1, none⟩) heg).trans b1
                  have l2 := (HBI.out.cell (p := ⟨eg, i * 5 + 2, none⟩) heg).trans b2
                  have l3 := (HBI.out.cell (p := ⟨eg, i * 5 + 3, none⟩) heg).trans b3
                  have l4 := (HBI.out.cell (p := ⟨eg, i * 5 + 4, none⟩) heg).trans b4
                  have hdgr : dg < wr.heap.size := by omega
                  have hegr : eg < wr.heap.size := by omega
                  generalize ev.kind = e0 at *
                  generalize ev.tick = e1 at *
                  generalize ev.job = e2 at *
                  generalize ev.task = e3 at *
                  generalize ev.deadline = e4 at *
                  clear a0 a1 a2 a3 a4 b0 b1 b2 b3 b4 r1 r2 hev
                  go_wp2_with fail
                  go_roundg (dn - (i + 1))
                  case measure => have := HGI.out; omega
                  case rel => exact ⟨i + 1, by go_num, rfl, by omega, (HBI.out.alloc HBI.out.size _).alloc (by simp; omega) _⟩
                · have hii : ¬ (i : Int) < (dn : Int) := by omega
                  have hp := HPP.out.later HBI.out
                  obtain ⟨cv, hcnt⟩ := hp.counts
                  obtain ⟨hHl2, g6⟩ := hp.six
                  simp only [countsV] at hcnt
                  generalize held cv.lines = hd9 at *
                  generalize cv.clock = kk9 at *
                  generalize cv.ct.jobs = jj9 at *
                  generalize cv.ct.done = dd9 at *
                  generalize cv.ct.lost = ll9 at *
                  generalize cv.ct.unknown = uu9 at *
                  generalize cv.ct.bad = bd9 at *
                  generalize cv.ct.spilled = sp9 at *
                  generalize cv.jobs.length = wt9 at *
                  have HCNT := hide hcnt
                  clear hp hcnt r1 r2
                  go_wp2_with fail
                  refine HCNT.out.mono ?_
                  rintro e w8 ⟨rfl, b8, g68, hGl8, hc2⟩
                  have HC2 := hide (hc2 (w8.alloc (.cells #[.int .i64 kk9, .int .i64 jj9, .int .i64 dd9, .int .i64 wt9, .int .i64 ll9, .int .i64 uu9, .int .i64 bd9, .int .i64 sp9, .int .i64 hd9] 50)) ((Below.refl _ _).alloc (Nat.le_refl _) _))
                  have hN1 := Blk.new w8 #[.int .i64 kk9, .int .i64 jj9, .int .i64 dd9, .int .i64 wt9, .int .i64 ll9, .int .i64 uu9, .int .i64 bd9, .int .i64 sp9, .int .i64 hd9] 50
                  have HN1 := hide hN1
                  have HB8 := hide b8
                  have hz8 := b8.size
                  clear hc2 hN1 b8 HCNT
                  go_wp2_with fail
                  refine HC2.out.mono ?_
                  rintro e w9 ⟨rfl, b9, hk9⟩
                  have hz9 : w8.heap.size < w9.heap.size := by have h := b9.size; simp at h; omega
                  have hN2 : Blk w9 w8.heap.size #[.int .i64 kk9, .int .i64 jj9, .int .i64 dd9, .int .i64 wt9, .int .i64 ll9, .int .i64 uu9, .int .i64 bd9, .int .i64 sp9, .int .i64 hd9] 50 := (hk9 w8.heap.size (Nat.le_refl _) (by simp)).trans HN1.out
                  have m0 : w9.cell? ⟨w8.heap.size, 0, none⟩ = some (.int .i64 kk9) := hN2.cell 0
                  have m1 : w9.cell? ⟨w8.heap.size, 1, none⟩ = some (.int .i64 jj9) := hN2.cell 1
                  have m6 : w9.cell? ⟨w8.heap.size, 6, none⟩ = some (.int .i64 bd9) := hN2.cell 6
                  have m7 : w9.cell? ⟨w8.heap.size, 7, none⟩ = some (.int .i64 sp9) := hN2.cell 7
                  have m8 : w9.cell? ⟨w8.heap.size, 8, none⟩ = some (.int .i64 hd9) := hN2.cell 8
                  have hNl := hN2.lt
                  have HB9 := hide b9
                  clear hN2 hk9 b9 HC2
                  go_wp2_with fail
                  go_ret
                  exact ⟨rfl, (HB1.out.trans (HBK.out.mono hz1)).trans ((((HB8.out.alloc hz8 _).trans HB9.out).alloc (by omega) _).mono (by omega))⟩
        · have HRUN := hide (HP.out.run (u := A) (L' := 1400) (by omega) (by omega))
          go_wp2_with fail
          refine HRUN.out.mono ?_
          rintro e w4 ⟨kk, rfl, st4⟩
          have HCL := hide st4.clock
          clear st4 HRUN
          go_wp2_with fail
          refine HCL.out.mono ?_
          rintro e w5 ⟨rfl, st5⟩
          have HS5 := hide st5
          have k0 := st5.k0
          have k1 := st5.k1
          clear st5 HCL
          go_wp2_with fail
          go_loopg [20] (3300 - kk).toNat (fun g nv wr => ∃ k : Int, nv = .int .i64 k ∧ g = (3300 - k).toNat ∧ StpP V wr w2.heap.size H X G Y c (.slice sa c.tasks.length scap) 1400 A at' k)
          case atStart => exact ⟨kk, rfl, rfl, HS5.out⟩
          case round =>
            obtain ⟨k, rfl, hg, hs⟩ := hrel
            have HG := hide hg
            have k2 := hs.k0
            have k3 := hs.k1
            clear hg
            by_cases hk : k < A
            · have HR := hide (hs.step hk (by omega))
              clear hs
              go_wp2_with fail
              refine HR.out.mono ?_
              rintro e w6 ⟨k6, rfl, hk6, s6⟩
              have HC6 := hide s6.clock
              clear s6 HR
              go_wp2_with fail
              refine HC6.out.mono ?_
              rintro e w7 ⟨rfl, s7⟩
              have HS7 := hide s7
              clear s7 HC6
              go_wp2_with fail
              go_roundg (3300 - k6).toNat
              case measure => have := HG.out; omega
              case rel => exact ⟨k6, rfl, rfl, HS7.out⟩
            · have hp := hs.end (by omega)
              have HCK := hide hp.clock
              have HPP := hide hp
              obtain ⟨WI, hwi⟩ : ∃ W, W = wr := ⟨_, rfl⟩
              subst hwi
              clear hs hp HS5
              go_upto_region 18 with (fail)
              go_cut [18] (fun av wx => ∃ E ck : Int, av = .int .i64 E ∧ A ≤ E ∧ ck ≤ E ∧ 0 ≤ ck ∧ ck ≤ 1400 ∧ E ≤ 1400 ∧ PieP V wx w2.heap.size H X G Y c (.slice sa c.tasks.length scap) ck at')
              case first =>
                go_wp2_with fail
                refine HCK.out.mono ?_
                rintro e w8 ⟨ck, rfl, ck0, ck1, p8⟩
                have HP8 := hide p8
                clear p8 HCK
                by_cases hmx : A < ck
                · go_wp2
                  go_meet
                  case rel => exact ⟨_, ck, rfl, by omega, by omega, ck0, ck1, by omega, HP8.out⟩
                · go_wp2
                  go_meet
                  case rel => exact ⟨_, ck, rfl, by omega, by omega, ck0, ck1, by omega, HP8.out⟩
              case rest =>
                obtain ⟨E, ck, rfl, hE0, hE1, ck0, ck1, hE2, p9⟩ := hcut
                have HP9 := hide p9
                clear p9 HPP HCK
                by_cases hE : 1000 ≤ E
                · have HCE := HP9
                  obtain ⟨wt, hwt⟩ : ∃ W, W = wc := ⟨_, rfl⟩
                  subst hwt
                  have HRUN := hide (HCE.out.run (u := 1500) (L' := 1800) (by omega) (by omega))
                  go_wp2_with fail
                  refine HRUN.out.mono ?_
                  rintro e w4 ⟨kk, rfl, st4⟩
                  have HCL := hide st4.clock
                  clear st4 HRUN
                  go_wp2_with fail
                  refine HCL.out.mono ?_
                  rintro e w5 ⟨rfl, st5⟩
                  have HS5 := hide st5
                  have k0 := st5.k0
                  have k1 := st5.k1
                  clear st5 HCL
                  go_wp2_with fail
                  go_loopg [23] (3300 - kk).toNat (fun g nv wr => ∃ k : Int, nv = .int .i64 k ∧ g = (3300 - k).toNat ∧ StpP V wr w2.heap.size H X G Y c (.slice sa c.tasks.length scap) 1800 1500 at' k)
                  case atStart => exact ⟨kk, rfl, rfl, HS5.out⟩
                  case round =>
                    obtain ⟨k, rfl, hg, hs⟩ := hrel
                    have HG := hide hg
                    have k2 := hs.k0
                    have k3 := hs.k1
                    clear hg HS5
                    by_cases hk : k < 1500
                    · have HR := hide (hs.step hk (by omega))
                      clear hs
                      go_wp2_with fail
                      refine HR.out.mono ?_
                      rintro e w6 ⟨k6, rfl, hk6, s6⟩
                      have HC6 := hide s6.clock
                      clear s6 HR
                      go_wp2_with fail
                      refine HC6.out.mono ?_
                      rintro e w7 ⟨rfl, s7⟩
                      have HS7 := hide s7
                      clear s7 HC6
                      go_wp2_with fail
                      go_roundg (3300 - k6).toNat
                      case measure => have := HG.out; omega
                      case rel => exact ⟨k6, rfl, rfl, HS7.out⟩
                    · have hp := hs.end (by omega)
                      obtain ⟨d, hdl, da, dc, ea, ec, r1, r2, hHl, hGl, hrow⟩ := hp.rows
                      have HPP := hide hp
                      have HROW := hide hrow
                      generalize hdn : d.length = dn at *
                      have HDN := hide hdn
                      obtain ⟨WT, hwT⟩ : ∃ W, W = wr := ⟨_, rfl⟩
                      subst hwT
                      clear hs hp hrow hdn
                      go_wp2_with fail
                      go_quiet ((fail))
                      go_wp2_with fail
                      go_loopg [24] dn (fun g iv wr => ∃ i : Nat, iv = .int .i64 i ∧ g = dn - i ∧ i ≤ dn ∧ Below WT.heap.size WT wr)
                      case atStart => exact ⟨0, rfl, by omega, Nat.zero_le _, below_drewN (Below.refl _ _) nq⟩
                      case round =>
                        obtain ⟨i, rfl, hgi, hie, hbi⟩ := hrel
                        have HGI := hide hgi
                        have HBI := hide hbi
                        have hszi := hbi.size
                        have y1 : wr.cell? ⟨H, 9, none⟩ = some (.slice da dn dc) := (hbi.cell (p := ⟨H, 9, none⟩) hHl).trans r1
                        have y2 : wr.cell? ⟨G, 9, none⟩ = some (.slice ea dn ec) := (hbi.cell (p := ⟨G, 9, none⟩) hGl).trans r2
                        have hHr : H < wr.heap.size := by omega
                        have hGr : G < wr.heap.size := by omega
                        clear hgi hbi
                        by_cases hil : i < dn
                        · have hii : (i : Int) < (dn : Int) := by omega
                          obtain ⟨ev, hev⟩ := get_of_lt (l := d) (k := i) (by rw [HDN.out]; exact hil)
                          obtain ⟨dg, eg, rfl, rfl, hdg, heg, ⟨a0, a1, a2, a3, a4⟩, b0, b1, b2, b3, b4⟩ := HROW.out i ev hev
                          have m0 := (HBI.out.cell (p := ⟨dg, i * 5, none⟩) hdg).trans a0
                          have m1 := (HBI.out.cell (p := ⟨dg, i * 5 + 1, none⟩) hdg).trans a1
                          have m2 := (HBI.out.cell (p := ⟨dg, i * 5 + 2, none⟩) hdg).trans a2
                          have m3 := (HBI.out.cell (p := ⟨dg, i * 5 + 3, none⟩) hdg).trans a3
                          have m4 := (HBI.out.cell (p := ⟨dg, i * 5 + 4, none⟩) hdg).trans a4
                          have l0 := (HBI.out.cell (p := ⟨eg, i * 5, none⟩) heg).trans b0
                          have l1 := (HBI.out.cell (p := ⟨eg, i * 5 + 1, none⟩) heg).trans b1
                          have l2 := (HBI.out.cell (p := ⟨eg, i * 5 + 2, none⟩) heg).trans b2
                          have l3 := (HBI.out.cell (p := ⟨eg, i * 5 + 3, none⟩) heg).trans b3
                          have l4 := (HBI.out.cell (p := ⟨eg, i * 5 + 4, none⟩) heg).trans b4
                          have hdgr : dg < wr.heap.size := by omega
                          have hegr : eg < wr.heap.size := by omega
                          generalize ev.kind = e0 at *
                          generalize ev.tick = e1 at *
                          generalize ev.job = e2 at *
                          generalize ev.task = e3 at *
                          generalize ev.deadline = e4 at *
                          clear a0 a1 a2 a3 a4 b0 b1 b2 b3 b4 r1 r2 hev
                          go_wp2_with fail
                          go_roundg (dn - (i + 1))
                          case measure => have := HGI.out; omega
                          case rel => exact ⟨i + 1, by go_num, rfl, by omega, (HBI.out.alloc HBI.out.size _).alloc (by simp; omega) _⟩
                        · have hii : ¬ (i : Int) < (dn : Int) := by omega
                          have hp := HPP.out.later HBI.out
                          obtain ⟨cv, hcnt⟩ := hp.counts
                          obtain ⟨hHl2, g6⟩ := hp.six
                          simp only [countsV] at hcnt
                          generalize held cv.lines = hd9 at *
                          generalize cv.clock = kk9 at *
                          generalize cv.ct.jobs = jj9 at *
                          generalize cv.ct.done = dd9 at *
                          generalize cv.ct.lost = ll9 at *
                          generalize cv.ct.unknown = uu9 at *
                          generalize cv.ct.bad = bd9 at *
                          generalize cv.ct.spilled = sp9 at *
                          generalize cv.jobs.length = wt9 at *
                          have HCNT := hide hcnt
                          clear hp hcnt r1 r2
                          go_wp2_with fail
                          refine HCNT.out.mono ?_
                          rintro e w8 ⟨rfl, b8, g68, hGl8, hc2⟩
                          have HC2 := hide (hc2 (w8.alloc (.cells #[.int .i64 kk9, .int .i64 jj9, .int .i64 dd9, .int .i64 wt9, .int .i64 ll9, .int .i64 uu9, .int .i64 bd9, .int .i64 sp9, .int .i64 hd9] 50)) ((Below.refl _ _).alloc (Nat.le_refl _) _))
                          have hN1 := Blk.new w8 #[.int .i64 kk9, .int .i64 jj9, .int .i64 dd9, .int .i64 wt9, .int .i64 ll9, .int .i64 uu9, .int .i64 bd9, .int .i64 sp9, .int .i64 hd9] 50
                          have HN1 := hide hN1
                          have HB8 := hide b8
                          have hz8 := b8.size
                          clear hc2 hN1 b8 HCNT
                          go_wp2_with fail
                          refine HC2.out.mono ?_
                          rintro e w9 ⟨rfl, b9, hk9⟩
                          have hz9 : w8.heap.size < w9.heap.size := by have h := b9.size; simp at h; omega
                          have hN2 : Blk w9 w8.heap.size #[.int .i64 kk9, .int .i64 jj9, .int .i64 dd9, .int .i64 wt9, .int .i64 ll9, .int .i64 uu9, .int .i64 bd9, .int .i64 sp9, .int .i64 hd9] 50 := (hk9 w8.heap.size (Nat.le_refl _) (by simp)).trans HN1.out
                          have m0 : w9.cell? ⟨w8.heap.size, 0, none⟩ = some (.int .i64 kk9) := hN2.cell 0
                          have m1 : w9.cell? ⟨w8.heap.size, 1, none⟩ = some (.int .i64 jj9) := hN2.cell 1
                          have m6 : w9.cell? ⟨w8.heap.size, 6, none⟩ = some (.int .i64 bd9) := hN2.cell 6
                          have m7 : w9.cell? ⟨w8.heap.size, 7, none⟩ = some (.int .i64 sp9) := hN2.cell 7
                          have m8 : w9.cell? ⟨w8.heap.size, 8, none⟩ = some (.int .i64 hd9) := hN2.cell 8
                          have hNl := hN2.lt
                          have HB9 := hide b9
                          clear hN2 hk9 b9 HC2
                          go_wp2_with fail
                          go_ret
                          exact ⟨rfl, (HB1.out.trans (HBK.out.mono hz1)).trans ((((HB8.out.alloc hz8 _).trans HB9.out).alloc (by omega) _).mono (by omega))⟩
                · have h6 := HP9.out.six
                  obtain ⟨hHl, g6⟩ := h6
                  obtain ⟨cs, hbw, g0, hkl⟩ := HCS.out wc HP9.out.bel
                  have hl0 : (c.lines == 0) = false := by simp; omega
                  obtain ⟨cap5, w5', hcv, q5, rd5⟩ := conv_strB s wc.drew
                  have hq5 : Below wc.heap.size wc w5' := ⟨q5.os, q5.tape, q5.output, q5.size, q5.block⟩
                  have hz5 := hq5.size
                  have g65 : w5'.cell? ⟨H, 6, none⟩ = some (.pointer (some ⟨X, 0, none⟩)) := (hq5.cell (p := ⟨H, 6, none⟩) hHl).trans g6
                  have g05 : w5'.cell? ⟨w1.heap.size, 0, none⟩ = some (.int .i64 c.lines) := (hq5.cell (p := ⟨w1.heap.size, 0, none⟩) hkl).trans g0
                  have cs5 : w5'.cell? ⟨bb, bo + q, none⟩ = some (.string s) := (hq5.cell (p := ⟨bb, bo + q, none⟩) hbw).trans cs
                  have hn0 : 0 ≤ (q : Int) % c.lines := Int.emod_nonneg _ (by omega)
                  have hn1 : (q : Int) % c.lines < c.lines := Int.emod_lt_of_pos _ (by omega)
                  have HFEED := hide (HP9.out.feed (n := (q : Int) % c.lines) (A := E) (bs := strB s) ⟨hn0, hn1⟩ ⟨hE1, by omega, by omega⟩ (strB_in s) (by rw [strB_length]; omega) hq5 rd5)
                  obtain ⟨F, hF⟩ : ∃ F : World → List Int → Prop, F = (fun wx l => BitP V wx w2.heap.size H X G Y c (.slice sa c.tasks.length scap) ck ((q : Int) % c.lines) E l) := ⟨_, rfl⟩
                  have HFF := hide hF
                  have HREL : Hid (∀ w6, BitP V w6 w2.heap.size H X G Y c (.slice sa c.tasks.length scap) ck ((q : Int) % c.lines) E (strB s) → F w6 (strB s) ∧ w6.cell? ⟨H, 6, none⟩ = some (.pointer (some ⟨X, 0, none⟩)) ∧ w6.cell? ⟨w1.heap.size, 0, none⟩ = some (.int .i64 c.lines) ∧ w6.cell? ⟨bb, bo + q, none⟩ = some (.string s)) := fun w6 hh => by
                    obtain ⟨y1, y2, y3, y4⟩ := HCS.out w6 hh.bel
                    refine ⟨by rw [HFF.out]; exact hh, ?_, y3, y1⟩
                    obtain ⟨⟨z, y, d, M, p, r⟩, h4⟩ := hh
                    exact p.six.2
                  have HHN := hide (And.intro hn0 hn1)
                  clear hq5 rd5 q5 hF hn0 hn1
                  go_upto_region 20 with (fail)
                  go_cut [21] (fun ev wx => ev = .int .i64 0 ∧ F wx (strB s))
                  case first =>
                    go_region_held (fun w' => w'.cell? ⟨H, 6, none⟩ = some (.pointer (some ⟨X, 0, none⟩)) ∧ w'.cell? ⟨w1.heap.size, 0, none⟩ = some (.int .i64 c.lines) ∧ w'.cell? ⟨bb, bo + q, none⟩ = some (.string s)) (go_keep) (first
                      | (go_at_call 15; refine HFEED.out.mono ?_; rintro e w6 ⟨rfl, hh⟩; obtain ⟨hF6, y6, y0, ys⟩ := HREL.out w6 hh; have HF6 := hide hF6; clear hh hF6))
                    all_goals
                      go_wp2_with fail
                      go_meet
                      case rel => exact ⟨rfl, HF6.out⟩
                  case rest =>
                    obtain ⟨rfl, hFx⟩ := hcut
                    have HFX := hide hFx
                    clear hFx HP9 HFEED HREL hcv g65 g05 cs5 g6 g0 cs
                    go_wp2_with fail
                    go_loopg [21, 22] s.size (fun g ev kv wr => ∃ k : Nat, ev = .int .i64 0 ∧ kv = .int .i64 k ∧ g = s.size - k ∧ k ≤ s.size ∧ F wr ((strB s).drop k))
                    case atStart => exact ⟨0, rfl, rfl, rfl, Nat.zero_le _, by rw [List.drop_zero]; exact HFX.out⟩
                    case round =>
                      obtain ⟨k', rfl, rfl, hg2, hkl2, hFk⟩ := hrel
                      have HG2 := hide hg2
                      have HFK := hide hFk
                      clear hg2 hFk HFX
                      rw [HFF.out] at HFK
                      obtain ⟨cs, hbw, g0, hkl⟩ := HCS.out wr HFK.out.bel
                      by_cases hks : k' < s.size
                      · have hki : (k' : Int) < (s.size : Int) := by omega
                        obtain ⟨hGl, g6⟩ := HFK.out.six
                        obtain ⟨b, hb1, hb2⟩ := strB_one hks
                        obtain ⟨cap6, w6', hcv6, q6, rd6⟩ := conv_strB (s.extract k' (k' + 1)) wr.drew
                        have hq6 : Below wr.heap.size wr w6' := ⟨q6.os, q6.tape, q6.output, q6.size, q6.block⟩
                        have hz6 := hq6.size
                        have g66 : w6'.cell? ⟨G, 6, none⟩ = some (.pointer (some ⟨Y, 0, none⟩)) := (hq6.cell (p := ⟨G, 6, none⟩) hGl).trans g6
                        have g06 : w6'.cell? ⟨w1.heap.size, 0, none⟩ = some (.int .i64 c.lines) := (hq6.cell (p := ⟨w1.heap.size, 0, none⟩) hkl).trans g0
                        have cs6 : w6'.cell? ⟨bb, bo + q, none⟩ = some (.string s) := (hq6.cell (p := ⟨bb, bo + q, none⟩) hbw).trans cs
                        have hbin : 0 ≤ b ∧ b < 256 := strB_in s b (List.mem_of_mem_drop (hb1 ▸ List.mem_cons_self))
                        rw [hb2] at rd6
                        have hFK2 := HFK.out
                        rw [hb1] at hFK2
                        have HFEED2 := hide (hFK2.feed HHN.out (by omega) hbin hq6 rd6)
                        have HREL2 : Hid (∀ w7, BitP V w7 w2.heap.size H X G Y c (.slice sa c.tasks.length scap) ck ((q : Int) % c.lines) E ((strB s).drop (k' + 1)) → F w7 ((strB s).drop (k' + 1)) ∧ w7.cell? ⟨G, 6, none⟩ = some (.pointer (some ⟨Y, 0, none⟩)) ∧ w7.cell? ⟨w1.heap.size, 0, none⟩ = some (.int .i64 c.lines) ∧ w7.cell? ⟨bb, bo + q, none⟩ = some (.string s)) := fun w7 hh => by
                          obtain ⟨y1, y2, y3, y4⟩ := HCS.out w7 hh.bel
                          exact ⟨by rw [HFF.out]; exact hh, hh.six.2, y3, y1⟩
                        have hxs : (s.extract k' (k' + 1)).size = 1 := by rw [ByteArray.size_extract]; omega
                        have hkn : ((k' : Int) + 1).toNat = k' + 1 := by omega
                        obtain ⟨WK, hwk⟩ : ∃ W, W = wr := ⟨_, rfl⟩
                        subst hwk
                        have hk1 : (k' : Int) + 1 ≤ (s.size : Int) := by omega
                        have hk2 : (k' : Int) ≤ (k' : Int) + 1 := by omega
                        have hk3 : (0 : Int) ≤ (k' : Int) := by omega
                        have hk4 : (0 : Int) ≤ (k' : Int) + 1 := by omega
                        have hk5 : IntKind.i64.wrap ((k' : Int) + 1) = (k' : Int) + 1 := IntWalk.i64_in _ ⟨by omega, by omega⟩
                        rw [hxs] at hcv6 HFEED2
                        clear hFK2 hq6 rd6 q6 HFK hb1 hb2 hbin hxs
                        go_upto_region 26 with (fail)
                        go_cut [21] (fun ev wx => ev = .int .i64 0 ∧ F wx ((strB s).drop (k' + 1)))
                        case first =>
                          go_region_held (fun w' => w'.cell? ⟨G, 6, none⟩ = some (.pointer (some ⟨Y, 0, none⟩)) ∧ w'.cell? ⟨w1.heap.size, 0, none⟩ = some (.int .i64 c.lines) ∧ w'.cell? ⟨bb, bo + q, none⟩ = some (.string s)) (go_keep) (first
                            | (go_at_call 15; refine HFEED2.out.mono ?_; rintro e w7 ⟨rfl, hh⟩; obtain ⟨hF7, y6, y0, ys⟩ := HREL2.out w7 hh; have HF7 := hide hF7; clear hh hF7))
                          all_goals
                            go_wp2_with fail
                            go_meet
                            case rel => exact ⟨rfl, HF7.out⟩
                        case rest =>
                          obtain ⟨rfl, hFy⟩ := hcut
                          have HFY := hide hFy
                          clear hFy hcv6 g66 g06 cs6 HFEED2 HREL2
                          go_wp2_with fail
                          go_roundg (s.size - (k' + 1))
                          case measure => have := HG2.out; omega
                          case rel => exact ⟨k' + 1, rfl, by go_num, rfl, by omega, HFY.out⟩
                      · have hki : ¬ (k' : Int) < (s.size : Int) := by omega
                        have hdr : (strB s).drop k' = [] := List.drop_eq_nil_of_le (by rw [strB_length]; omega)
                        have hFE := HFK.out
                        rw [hdr] at hFE
                        have hPE := hFE.end HHN.out (by omega)
                        have HPE : Hid (PieP V wr w2.heap.size H X G Y c (.slice sa c.tasks.length scap) 1400 E) := by
                          obtain ⟨⟨x, y, d, p, al, ix, iy, cf, fx, fy, ck', dl⟩, h4⟩ := hPE
                          exact ⟨⟨x, y, d, p, al, ix, iy, cf, fx, fy, by omega, dl⟩, h4⟩
                        clear hFE hPE HFK
                        go_wp2_with fail
                        go_roundg (sl - (q + 1))
                        case measure => have := HGK.out; omega
                        case rel => exact ⟨q + 1, E, rfl, by go_num, rfl, by omega, by omega, by omega, HPE.out⟩
    · have hqi : ¬ (q : Int) < (sl : Int) := by omega
      have HCE := HP
      obtain ⟨wt, hwt⟩ : ∃ W, W = WO := ⟨_, rfl⟩
      subst hwt
      have HRUN := hide (HCE.out.run (u := 1500) (L' := 1800) (by omega) (by omega))
      go_wp2_with fail
      refine HRUN.out.mono ?_
      rintro e w4 ⟨kk, rfl, st4⟩
      have HCL := hide st4.clock
      clear st4 HRUN
      go_wp2_with fail
      refine HCL.out.mono ?_
      rintro e w5 ⟨rfl, st5⟩
      have HS5 := hide st5
      have k0 := st5.k0
      have k1 := st5.k1
      clear st5 HCL
      go_wp2_with fail
      go_loopg [23] (3300 - kk).toNat (fun g nv wr => ∃ k : Int, nv = .int .i64 k ∧ g = (3300 - k).toNat ∧ StpP V wr w2.heap.size H X G Y c (.slice sa c.tasks.length scap) 1800 1500 at' k)
      case atStart => exact ⟨kk, rfl, rfl, HS5.out⟩
      case round =>
        obtain ⟨k, rfl, hg, hs⟩ := hrel
        have HG := hide hg
        have k2 := hs.k0
        have k3 := hs.k1
        clear hg HS5
        by_cases hk : k < 1500
        · have HR := hide (hs.step hk (by omega))
          clear hs
          go_wp2_with fail
          refine HR.out.mono ?_
          rintro e w6 ⟨k6, rfl, hk6, s6⟩
          have HC6 := hide s6.clock
          clear s6 HR
          go_wp2_with fail
          refine HC6.out.mono ?_
          rintro e w7 ⟨rfl, s7⟩
          have HS7 := hide s7
          clear s7 HC6
          go_wp2_with fail
          go_roundg (3300 - k6).toNat
          case measure => have := HG.out; omega
          case rel => exact ⟨k6, rfl, rfl, HS7.out⟩
        · have hp := hs.end (by omega)
          obtain ⟨d, hdl, da, dc, ea, ec, r1, r2, hHl, hGl, hrow⟩ := hp.rows
          have HPP := hide hp
          have HROW := hide hrow
          generalize hdn : d.length = dn at *
          have HDN := hide hdn
          obtain ⟨WT, hwT⟩ : ∃ W, W = wr := ⟨_, rfl⟩
          subst hwT
          clear hs hp hrow hdn
          go_wp2_with fail
          go_quiet ((fail))
          go_wp2_with fail
          go_loopg [24] dn (fun g iv wr => ∃ i : Nat, iv = .int .i64 i ∧ g = dn - i ∧ i ≤ dn ∧ Below WT.heap.size WT wr)
          case atStart => exact ⟨0, rfl, by omega, Nat.zero_le _, below_drewN (Below.refl _ _) nq⟩
          case round =>
            obtain ⟨i, rfl, hgi, hie, hbi⟩ := hrel
            have HGI := hide hgi
            have HBI := hide hbi
            have hszi := hbi.size
            have y1 : wr.cell? ⟨H, 9, none⟩ = some (.slice da dn dc) := (hbi.cell (p := ⟨H, 9, none⟩) hHl).trans r1
            have y2 : wr.cell? ⟨G, 9, none⟩ = some (.slice ea dn ec) := (hbi.cell (p := ⟨G, 9, none⟩) hGl).trans r2
            have hHr : H < wr.heap.size := by omega
            have hGr : G < wr.heap.size := by omega
            clear hgi hbi
            by_cases hil : i < dn
            · have hii : (i : Int) < (dn : Int) := by omega
              obtain ⟨ev, hev⟩ := get_of_lt (l := d) (k := i) (by rw [HDN.out]; exact hil)
              obtain ⟨dg, eg, rfl, rfl, hdg, heg, ⟨a0, a1, a2, a3, a4⟩, b0, b1, b2, b3, b4⟩ := HROW.out i ev hev
              have m0 := (HBI.out.cell (p := ⟨dg, i * 5, none⟩) hdg).trans a0
              have m1 := (HBI.out.cell (p := ⟨dg, i * 5 + 1, none⟩) hdg).trans a1
              have m2 := (HBI.out.cell (p := ⟨dg, i * 5 + 2, none⟩) hdg).trans a2
              have m3 := (HBI.out.cell (p := ⟨dg, i * 5 + 3, none⟩) hdg).trans a3
              have m4 := (HBI.out.cell (p := ⟨dg, i * 5 + 4, none⟩) hdg).trans a4
              have l0 := (HBI.out.cell (p := ⟨eg, i * 5, none⟩) heg).trans b0
              have l1 := (HBI.out.cell (p := ⟨eg, i * 5 + 1, none⟩) heg).trans b1
              have l2 := (HBI.out.cell (p := ⟨eg, i * 5 + 2, none⟩) heg).trans b2
              have l3 := (HBI.out.cell (p := ⟨eg, i * 5 + 3, none⟩) heg).trans b3
              have l4 := (HBI.out.cell (p := ⟨eg, i * 5 + 4, none⟩) heg).trans b4
              have hdgr : dg < wr.heap.size := by omega
              have hegr : eg < wr.heap.size := by omega
              generalize ev.kind = e0 at *
              generalize ev.tick = e1 at *
              generalize ev.job = e2 at *
              generalize ev.task = e3 at *
              generalize ev.deadline = e4 at *
              clear a0 a1 a2 a3 a4 b0 b1 b2 b3 b4 r1 r2 hev
              go_wp2_with fail
              go_roundg (dn - (i + 1))
              case measure => have := HGI.out; omega
              case rel => exact ⟨i + 1, by go_num, rfl, by omega, (HBI.out.alloc HBI.out.size _).alloc (by simp; omega) _⟩
            · have hii : ¬ (i : Int) < (dn : Int) := by omega
              have hp := HPP.out.later HBI.out
              obtain ⟨cv, hcnt⟩ := hp.counts
              obtain ⟨hHl2, g6⟩ := hp.six
              simp only [countsV] at hcnt
              generalize held cv.lines = hd9 at *
              generalize cv.clock = kk9 at *
              generalize cv.ct.jobs = jj9 at *
              generalize cv.ct.done = dd9 at *
              generalize cv.ct.lost = ll9 at *
              generalize cv.ct.unknown = uu9 at *
              generalize cv.ct.bad = bd9 at *
              generalize cv.ct.spilled = sp9 at *
              generalize cv.jobs.length = wt9 at *
              have HCNT := hide hcnt
              clear hp hcnt r1 r2
              go_wp2_with fail
              refine HCNT.out.mono ?_
              rintro e w8 ⟨rfl, b8, g68, hGl8, hc2⟩
              have HC2 := hide (hc2 (w8.alloc (.cells #[.int .i64 kk9, .int .i64 jj9, .int .i64 dd9, .int .i64 wt9, .int .i64 ll9, .int .i64 uu9, .int .i64 bd9, .int .i64 sp9, .int .i64 hd9] 50)) ((Below.refl _ _).alloc (Nat.le_refl _) _))
              have hN1 := Blk.new w8 #[.int .i64 kk9, .int .i64 jj9, .int .i64 dd9, .int .i64 wt9, .int .i64 ll9, .int .i64 uu9, .int .i64 bd9, .int .i64 sp9, .int .i64 hd9] 50
              have HN1 := hide hN1
              have HB8 := hide b8
              have hz8 := b8.size
              clear hc2 hN1 b8 HCNT
              go_wp2_with fail
              refine HC2.out.mono ?_
              rintro e w9 ⟨rfl, b9, hk9⟩
              have hz9 : w8.heap.size < w9.heap.size := by have h := b9.size; simp at h; omega
              have hN2 : Blk w9 w8.heap.size #[.int .i64 kk9, .int .i64 jj9, .int .i64 dd9, .int .i64 wt9, .int .i64 ll9, .int .i64 uu9, .int .i64 bd9, .int .i64 sp9, .int .i64 hd9] 50 := (hk9 w8.heap.size (Nat.le_refl _) (by simp)).trans HN1.out
              have m0 : w9.cell? ⟨w8.heap.size, 0, none⟩ = some (.int .i64 kk9) := hN2.cell 0
              have m1 : w9.cell? ⟨w8.heap.size, 1, none⟩ = some (.int .i64 jj9) := hN2.cell 1
              have m6 : w9.cell? ⟨w8.heap.size, 6, none⟩ = some (.int .i64 bd9) := hN2.cell 6
              have m7 : w9.cell? ⟨w8.heap.size, 7, none⟩ = some (.int .i64 sp9) := hN2.cell 7
              have m8 : w9.cell? ⟨w8.heap.size, 8, none⟩ = some (.int .i64 hd9) := hN2.cell 8
              have hNl := hN2.lt
              have HB9 := hide b9
              clear hN2 hk9 b9 HC2
              go_wp2_with fail
              go_ret
              exact ⟨rfl, (HB1.out.trans (HBK.out.mono hz1)).trans ((((HB8.out.alloc hz8 _).trans HB9.out).alloc (by omega) _).mono (by omega))⟩

end Go.Proofs.Ythloffgebebijaa
