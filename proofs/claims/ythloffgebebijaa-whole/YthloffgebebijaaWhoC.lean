/- WhoC: the walk of tillerkeep.Whole: it answers true. -/
import Derived.Test.YthloffgebebijaaWhoB
import Derived.Test.YthloffgebebijaaSetB
import Derived.Test.YthloffgebebijaaMath
import Derived.Deep.DeepCutAuto
import Derived.Deep.CutBlock
import Derived.Deep.LoopGhost
import Derived.Deep.RegionHeld
import Derived.Deep.DrawnRows
namespace Go.Proofs.Ythloffgebebijaa
open Go.RowKit Go.MuLone
attribute [local go_sem ↓] Go.wp_at_zero Go.wp_at_succ

set_option maxRecDepth 100000 in
set_option maxHeartbeats 20000000 in
theorem whole_true (lines room price : Int) (vr vc : Value) (rs : List Raw5) (cs : List Come5) (B : Nat) (w : World) (h1 : In64 lines) (h2 : In64 room) (h3 : In64 price)
    (hvr : Raws w B vr rs) (hvc : ComesR w B vc cs) (hB : B ≤ w.heap.size) (hr : ∀ r ∈ rs, r.fits) (hlen : rs.length ≤ 140737488355328) (hcl : cs.length ≤ 140737488355328) (hci : ∀ o ∈ cs, o.fits) :
    Calls Try.prog 5 #[.int .i64 lines, .int .i64 room, .int .i64 price, vr, vc] w fun e w' => e = .returned (.bool true) ∧ Below w.heap.size w w' := by
  have HS := hide (settings_false lines room price vr rs B w h1 h2 h3 hvr hB hr hlen)
  have HOK := hide (mkCfg_ok lines room price rs false)
  generalize mkCfg lines room price rs false = c at *
  obtain ⟨ra, rcap, rfl, -⟩ := hvr
  obtain ⟨ca, ccap, rfl, hc⟩ := hvc
  have HC := hide hc
  have HCI := hide hci
  generalize hrl : rs.length = rl at *
  generalize hCL : cs.length = cl at *
  have HCLn := hide hCL
  obtain ⟨⟨c1, c2⟩, ⟨c3, c4⟩, ⟨c5, c6⟩, ⟨c7, c8⟩, ⟨c9, c10⟩, ⟨c11, c12⟩, c13⟩ := cfgNum HOK.out
  clear h1 h2 h3 hr hc hci hrl hCL c13
  go_enter Try.func5, Try.ntmps5
  go_wp2_with fail
  refine HS.out.mono ?_
  rintro e w1 ⟨v1, rfl, cf1, b1⟩
  obtain ⟨s1, rfl, t1⟩ := cf1
  obtain ⟨sa, scap, rfl⟩ := t1.slice
  have hz1 := b1.size
  have hbk : Below w1.heap.size w1 (w1.alloc (.cells #[.int .i64 c.lines, .int .i64 c.room, .int .i64 c.poll, .int .i64 c.idle, .int .i64 c.sw, .slice sa c.tasks.length scap] 26)) := (Below.refl _ _).alloc (Nat.le_refl _) _
  have hT1 := t1.later hbk (Nat.le_refl _)
  have HOP := hide (opened_any w1.heap.size c sa scap _ hT1 (by simp) HOK.out)
  have HT1 := hide hT1
  have HB1 := hide b1
  have HK1 := hide (Blk.new w1 #[.int .i64 c.lines, .int .i64 c.room, .int .i64 c.poll, .int .i64 c.idle, .int .i64 c.sw, .slice sa c.tasks.length scap] 26)
  have hzk : (w1.alloc (.cells #[.int .i64 c.lines, .int .i64 c.room, .int .i64 c.poll, .int .i64 c.idle, .int .i64 c.sw, .slice sa c.tasks.length scap] 26)).heap.size = w1.heap.size + 1 := by simp
  have HZK := hide hzk
  have HBK := hide hbk
  clear t1 b1 HS hzk hbk hT1
  go_wp2_with fail
  refine HOP.out.mono ?_
  generalize w1.alloc (.cells #[.int .i64 c.lines, .int .i64 c.room, .int .i64 c.poll, .int .i64 c.idle, .int .i64 c.sw, .slice sa c.tasks.length scap] 26) = V at *
  rintro e w2 ⟨H, X, S, rfl, p2, s2, hH2, q2⟩
  have hzv : w1.heap.size < V.heap.size := by rw [HZK.out]; omega
  obtain ⟨sb, so, rfl, hsb, hsc⟩ : ∃ b o, sa = some ⟨b, o, none⟩ ∧ b < V.heap.size ∧ ∀ i t, c.tasks[i]? = some t → TaskAt V V.heap.size b (o + i * 3) t := by
    obtain ⟨a, cap, he, h⟩ := HT1.out
    simp only [Value.slice.injEq] at he
    obtain ⟨rfl, _, rfl⟩ := he
    rcases h with h | ⟨b, o, hb1, hb2, hb3⟩
    · rw [h] at c11; simp at c11
    · refine ⟨b, o, hb1, by omega, fun i t hi => ?_⟩
      obtain ⟨x1, x2, s, x3, x4⟩ := hb3 i t hi
      obtain ⟨la, lc, hl1, hl2⟩ := x4
      refine ⟨x1, x2, s, x3, la, lc, hl1, hl2.imp id ?_⟩
      rintro ⟨b', o', y1, y2, y3⟩
      exact ⟨b', o', y1, by omega, y3⟩
  generalize hn : c.tasks.length = n at *
  have HN := hide hn
  have HST : Hid (WhS V w2 H X c (.slice (some ⟨sb, so, none⟩) n scap) 0) := WhS.opened p2 s2 hH2 q2 HOK.out
  have hz2 := q2.size
  have HSC := hide hsc
  have HKC : Hid (∀ w', Below V.heap.size V w' → w'.cell? ⟨w1.heap.size, 2, none⟩ = some (.int .i64 c.poll) ∧ w'.cell? ⟨w1.heap.size, 4, none⟩ = some (.int .i64 c.sw) ∧ w'.cell? ⟨w1.heap.size, 5, none⟩ = some (.slice (some ⟨sb, so, none⟩) n scap) ∧ w1.heap.size < w'.heap.size) := fun w' hb => by
    have hk := HK1.out.later hb hzv
    exact ⟨hk.cell 2, hk.cell 4, hk.cell 5, hk.lt⟩
  have HBW : Hid (∀ w', Below V.heap.size V w' → Below w.heap.size w w') := fun w' hb => (HB1.out.trans (HBK.out.mono hz1)).trans (hb.mono (by omega))
  clear p2 s2 hH2 q2 HOP hsc HK1 HT1 hn HB1 HBK
  go_upto_block 0 with (fail)
  go_cut [13] (fun okv wx => ∃ q : Nat, okv = .bool true ∧ q ≤ 60 ∧ WhS V wx H X c (.slice (some ⟨sb, so, none⟩) n scap) q)
  case first =>
    go_wp2_with fail
    go_loopg [13, 14] 60 (fun g okv iv wr => ∃ q : Nat, okv = .bool true ∧ iv = .int .i64 q ∧ g = 60 - q ∧ q ≤ 60 ∧ q ≤ cl ∧ WhS V wr H X c (.slice (some ⟨sb, so, none⟩) n scap) q)
    case atStart => exact ⟨0, rfl, rfl, rfl, by omega, by omega, HST.out⟩
    case round =>
      obtain ⟨q, rfl, rfl, hg, hq6, hqc, hs⟩ := hrel
      have HG := hide hg
      have HSS := hide hs
      clear hg hs HST
      by_cases hlt : q < cl
      · have hqi : (q : Int) < (cl : Int) := by omega
        by_cases hl6 : q < 60
        · have hq60 : (q : Int) < 60 := by omega
          obtain ⟨o, ho⟩ := get_of_lt (l := cs) (k := q) (by rw [HCLn.out]; exact hlt)
          rcases HC.out with he | ⟨cb, co, rfl, hcb, hcc⟩
          · rw [he] at ho; simp at ho
          obtain ⟨m0, m1, m2, m3, m4⟩ := (hcc q o ho).later (HBW.out wr HSS.out.bel) (by omega)
          have hcbw : cb < wr.heap.size := by have := (HBW.out wr HSS.out.bel).size; omega
          have HCO := hide (WhS.comes HN.out HSS.out hl6 hsb HSC.out HOK.out (HCI.out o (List.mem_of_getElem? ho)))
          clear hcc ho
          go_wp2_with fail
          refine HCO.out.mono ?_
          rintro e w3 ⟨rfl, p3⟩
          have HP3 := hide p3
          clear p3 HCO
          go_wp2_with fail
          go_roundg (60 - (q + 1))
          case measure => have := HG.out; omega
          case rel => exact ⟨q + 1, rfl, by go_num, rfl, by omega, by omega, HP3.out⟩
        · have hq60 : ¬ (q : Int) < 60 := by omega
          go_wp2_with fail
          go_meet
          case rel => exact ⟨q, rfl, hq6, HSS.out⟩
      · have hqi : ¬ (q : Int) < (cl : Int) := by omega
        go_wp2_with fail
        go_meet
        case rel => exact ⟨q, rfl, hq6, HSS.out⟩
  case rest =>
    obtain ⟨q, rfl, hq6, hs⟩ := hcut
    have HRN := hide (hs.run hq6)
    clear hs HST HC HCI
    go_wp2_with fail
    refine HRN.out.mono ?_
    rintro e w4 ⟨rfl, EE, dv, p4⟩
    obtain ⟨hHl, g9, hev, hat, hord, hein, hel, hbl⟩ := p4
    obtain ⟨da, dc, hdv⟩ := ownsRow_slice hev
    generalize hEL : EE.length = el at *
    have HEL := hide hEL
    have HEV := hide hev
    have HAT := hide hat
    have HORD := hide hord
    have HEIN := hide hein
    have HBL := hide hbl
    have hbz := hbl.size
    subst hdv
    clear hev hat hord hein hbl HRN hEL
    go_wp2_with fail
    go_loopg [15, 16, 17] el (fun g ev bv iv wr => ∃ (i : Nat) (e : Int), ev = .int .i64 e ∧ iv = .int .i64 i ∧ g = el - i ∧ i ≤ el ∧ AtE c EE i e ∧ 0 ≤ e ∧ e ≤ 3294 ∧ EvP wr w4.heap.size bv (begs (EE.take i)) ∧ Below w4.heap.size w4 wr)
    case atStart => exact ⟨0, 0, rfl, rfl, by omega, Nat.zero_le _, HAT.out, by omega, by omega, by simp only [List.take_zero, begs, List.filter_nil]; exact World.ownsRow_nil _ _ _ _, Below.refl _ _⟩
    case round =>
      obtain ⟨i, e, rfl, rfl, hg, hil, hat, he0, he1, hbe, hb⟩ := hrel
      have HG := hide hg
      have HBE := hide hbe
      have HB := hide hb
      have hzr := hb.size
      have y9 : wr.cell? ⟨H, 9, none⟩ = some (.slice da el dc) := (hb.cell (p := ⟨H, 9, none⟩) hHl).trans g9
      have hHr : H < wr.heap.size := by omega
      have HBV : Hid (Below V.heap.size V wr) := HBL.out.trans (hb.mono hbz)
      obtain ⟨k2, k4, k5, hkl⟩ := HKC.out wr HBV.out
      clear hg hb
      by_cases hlt : i < el
      · have hii : (i : Int) < (el : Int) := by omega
        have hwi : IntKind.i64.wrap ((i : Int) + 1) = (i : Int) + 1 := IntWalk.i64_in _ ⟨by omega, by omega⟩
        have hkn : ((i : Int) + 1).toNat = i + 1 := by omega
        obtain ⟨d, hd⟩ := get_of_lt (l := EE) (k := i) (by rw [HEL.out]; exact hlt)
        obtain ⟨dg, dc', hdv, hdgl, -, a0, a1, a2, a3, a4⟩ := HEV.out.at hd
        simp only [Value.slice.injEq] at hdv
        obtain ⟨rfl, -, rfl⟩ := hdv
        have hdr : dg < wr.heap.size := by omega
        have m0 := (HB.out.cell (p := ⟨dg, i * 5, none⟩) hdgl).trans a0
        have m1 := (HB.out.cell (p := ⟨dg, i * 5 + 1, none⟩) hdgl).trans a1
        have m2 := (HB.out.cell (p := ⟨dg, i * 5 + 2, none⟩) hdgl).trans a2
        have m3 := (HB.out.cell (p := ⟨dg, i * 5 + 3, none⟩) hdgl).trans a3
        have m4 := (HB.out.cell (p := ⟨dg, i * 5 + 4, none⟩) hdgl).trans a4
        have din := HEIN.out d (List.mem_of_getElem? hd)
        have d1 := din.a0
        have d2 := din.a1
        have HTK := hide (begs_take hd)
        rcases hat.next hd with ⟨hk, hp, x, hx, x0, x1, x2, x3, x4, hat2⟩ | ⟨hk, hi0, ⟨b, hb1, hb2⟩, hat2⟩ | ⟨hk, hp, hj, hat2⟩
        · obtain ⟨dg2, dc2, hdv2, hdgl2, -, z0, z1, z2, z3, z4⟩ := HEV.out.at hx
          simp only [Value.slice.injEq, Option.some.injEq, Addr.mk.injEq] at hdv2
          obtain ⟨⟨rfl, -⟩, -, -⟩ := hdv2
          have hlt2 : i + 1 < el := by have := lt_of_get hx; rw [HEL.out] at this; exact this
          have hii2 : (i : Int) + 1 < (el : Int) := by omega
          have n0 := (HB.out.cell (p := ⟨dg, (i + 1) * 5, none⟩) hdgl).trans z0
          have n1 := (HB.out.cell (p := ⟨dg, (i + 1) * 5 + 1, none⟩) hdgl).trans z1
          have n2 := (HB.out.cell (p := ⟨dg, (i + 1) * 5 + 2, none⟩) hdgl).trans z2
          have n3 := (HB.out.cell (p := ⟨dg, (i + 1) * 5 + 3, none⟩) hdgl).trans z3
          have n4 := (HB.out.cell (p := ⟨dg, (i + 1) * 5 + 4, none⟩) hdgl).trans z4
          have xin := HEIN.out x (List.mem_of_getElem? hx)
          have x5 := xin.a0
          have x6 := xin.a1
          rw [x0] at n0
          rw [x1] at n2
          rw [x2] at n3
          rw [x3] at n4
          rw [hk] at m0
          have HAT2 := hide hat2
          have hde : d = ⟨1, d.tick, d.job, d.task, d.deadline⟩ := by rw [← hk]
          rw [if_pos hk, hde] at HTK
          clear a0 a1 a2 a3 a4 z0 z1 z2 z3 z4 hd hx hat hat2 din xin hk x0 x1 x2 x3 hde
          generalize d.tick = dt at *
          generalize d.job = dj at *
          generalize d.task = dk at *
          generalize d.deadline = dl at *
          generalize x.tick = xt at *
          generalize hbb : begs (EE.take i) = BB at *
          have hbl2 : BB.length ≤ 120000 := by
            have h1 : BB.length ≤ (EE.take i).length := by rw [← hbb]; exact List.length_filter_le _ _
            have h2 : (EE.take i).length ≤ EE.length := by rw [List.length_take]; omega
            rw [HEL.out] at h2
            omega
          clear hbb
          obtain ⟨ba, bc, hbv⟩ := ownsRow_slice HBE.out
          generalize BB.length = bn at hbv
          subst hbv
          have hq1 : Below wr.heap.size wr (wr.alloc (.cells #[.int .i64 1, .int .i64 dt, .int .i64 dj, .int .i64 dk, .int .i64 dl] 53)) := (Below.refl _ _).alloc (Nat.le_refl _) _
          have hq2 : Below (wr.heap.size + 1) (wr.alloc (.cells #[.int .i64 1, .int .i64 dt, .int .i64 dj, .int .i64 dk, .int .i64 dl] 53)) ((wr.alloc (.cells #[.int .i64 1, .int .i64 dt, .int .i64 dj, .int .i64 dk, .int .i64 dl] 53)).alloc (.cells #[.int .i64 2, .int .i64 xt, .int .i64 dj, .int .i64 dk, .int .i64 dl] 53)) := (Below.refl _ _).alloc (by simp) _
          have HB2 : Hid (Below wr.heap.size wr ((wr.alloc (.cells #[.int .i64 1, .int .i64 dt, .int .i64 dj, .int .i64 dk, .int .i64 dl] 53)).alloc (.cells #[.int .i64 2, .int .i64 xt, .int .i64 dj, .int .i64 dk, .int .i64 dl] 53))) := hq1.trans (hq2.mono (by omega))
          have hs2 : (((wr.alloc (.cells #[.int .i64 1, .int .i64 dt, .int .i64 dj, .int .i64 dk, .int .i64 dl] 53)).alloc (.cells #[.int .i64 2, .int .i64 xt, .int .i64 dj, .int .i64 dk, .int .i64 dl] 53))).heap.size = wr.heap.size + 2 := by simp
          have HDB : Hid (Blk ((wr.alloc (.cells #[.int .i64 1, .int .i64 dt, .int .i64 dj, .int .i64 dk, .int .i64 dl] 53)).alloc (.cells #[.int .i64 2, .int .i64 xt, .int .i64 dj, .int .i64 dk, .int .i64 dl] 53)) wr.heap.size #[.int .i64 1, .int .i64 dt, .int .i64 dj, .int .i64 dk, .int .i64 dl] 53) := (Blk.new wr _ _).later hq2 (by omega)
          have HXB : Hid (Blk ((wr.alloc (.cells #[.int .i64 1, .int .i64 dt, .int .i64 dj, .int .i64 dk, .int .i64 dl] 53)).alloc (.cells #[.int .i64 2, .int .i64 xt, .int .i64 dj, .int .i64 dk, .int .i64 dl] 53)) (wr.heap.size + 1) #[.int .i64 2, .int .i64 xt, .int .i64 dj, .int .i64 dk, .int .i64 dl] 53) := by
            have := Blk.new (wr.alloc (.cells #[.int .i64 1, .int .i64 dt, .int .i64 dj, .int .i64 dk, .int .i64 dl] 53)) #[.int .i64 2, .int .i64 xt, .int .i64 dj, .int .i64 dk, .int .i64 dl] 53
            rw [show (wr.alloc (.cells #[.int .i64 1, .int .i64 dt, .int .i64 dj, .int .i64 dk, .int .i64 dl] 53)).heap.size = wr.heap.size + 1 from by simp] at this
            exact this
          have HS2 := hide hs2
          clear hq1 hq2 hs2
          go_upto_region 26 with (fail)
          generalize ((wr.alloc (.cells #[.int .i64 1, .int .i64 dt, .int .i64 dj, .int .i64 dk, .int .i64 dl] 53)).alloc (.cells #[.int .i64 2, .int .i64 xt, .int .i64 dj, .int .i64 dk, .int .i64 dl] 53)) = W2 at *
          have hz2 : wr.heap.size + 2 ≤ W2.heap.size := by have := HS2.out; omega
          have e0 : W2.cell? ⟨wr.heap.size, 0, none⟩ = some (.int .i64 1) := HDB.out.cell 0
          have e1 : W2.cell? ⟨wr.heap.size, 1, none⟩ = some (.int .i64 dt) := HDB.out.cell 1
          have e2 : W2.cell? ⟨wr.heap.size, 2, none⟩ = some (.int .i64 dj) := HDB.out.cell 2
          have e3 : W2.cell? ⟨wr.heap.size, 3, none⟩ = some (.int .i64 dk) := HDB.out.cell 3
          have e4 : W2.cell? ⟨wr.heap.size, 4, none⟩ = some (.int .i64 dl) := HDB.out.cell 4
          have hq3 : Below W2.heap.size W2 (W2.alloc (.cells #[.int .i64 1, .int .i64 dt, .int .i64 dj, .int .i64 dk, .int .i64 dl] 53)) := (Below.refl _ _).alloc (Nat.le_refl _) _
          have HE3 := hide ((HBE.out.later HB2.out).later hq3)
          have HX3 := hide (HXB.out.later hq3 (by omega))
          have HB3 : Hid (Below wr.heap.size wr (W2.alloc (.cells #[.int .i64 1, .int .i64 dt, .int .i64 dj, .int .i64 dk, .int .i64 dl] 53))) := HB2.out.trans (hq3.mono (by omega))
          have hbn : ∀ k, (Value.slice ba bn bc).ownBlock = some k → w4.heap.size ≤ k ∧ k < wr.heap.size := fun k hk => ownsRow_lt HBE.out hk
          have HBN := hide hbn
          have HFR := hide (fresh_cells W2 [.int .i64 1, .int .i64 dt, .int .i64 dj, .int .i64 dk, .int .i64 dl] 53 _ rfl)
          clear hq3 hbn
          go_wp2_with (at_builtin; go_must (refine wpList_appEv rfl _ _ rfl w4.heap.size (.slice ba bn bc) BB ⟨1, dt, dj, dk, dl⟩ rfl HE3.out ⟨W2.heap.size, 0, none⟩ 1 rfl HFR.out (by omega) (by simp; omega) ?_))
          intro bv5 w5 e5 g5 o5
          have hX5 : Blk w5 (wr.heap.size + 1) #[.int .i64 2, .int .i64 xt, .int .i64 dj, .int .i64 dk, .int .i64 dl] 53 := HX3.out.grownRow g5 fun e => by have := (HBN.out _ e).2; omega
          have j1 : w5.cell? ⟨wr.heap.size + 1, 1, none⟩ = some (.int .i64 xt) := hX5.cell 1
          have hXl := hX5.lt
          have HB5 : Hid (Below w4.heap.size w4 w5) := (HB.out.trans (HB3.out.mono hzr)).trans ((Fr.of_grown (X := fun k => (Value.slice ba bn bc).ownBlock = some k) g5 fun k e _ => e).below (by simp; omega) fun k e => (HBN.out k e).1)
          obtain ⟨ba5, bc5, hbv5⟩ := ownsRow_slice e5
          generalize (BB ++ [(⟨1, dt, dj, dk, dl⟩ : Ev)]).length = bn5 at hbv5
          subst hbv5
          have HE5 := hide e5
          clear e5 g5 o5 hX5 e0 e1 e2 e3 e4
          go_wp2_with fail
          go_roundg (el - (i + 1))
          case measure => have := HG.out; omega
          case rel => exact ⟨i + 1, xt, rfl, by go_num, rfl, by omega, HAT2.out, by omega, by omega, by rw [HTK.out]; exact HE5.out, HB5.out⟩
        · have h1n : IntKind.i64.wrap ((i : Int) - 1) = (i : Int) - 1 := IntWalk.i64_in _ ⟨by omega, by omega⟩
          have h1k : ((i : Int) - 1).toNat = i - 1 := by omega
          have h1a : (0 : Int) ≤ (i : Int) - 1 := by omega
          have h1b : (i : Int) - 1 < (el : Int) := by omega
          have h10 : ¬ (i : Int) = 0 := by omega
          obtain ⟨dg2, dc2, hdv2, hdgl2, -, z0, -⟩ := HEV.out.at hb1
          simp only [Value.slice.injEq, Option.some.injEq, Addr.mk.injEq] at hdv2
          obtain ⟨⟨rfl, -⟩, -, -⟩ := hdv2
          have n0 := (HB.out.cell (p := ⟨dg, (i - 1) * 5, none⟩) hdgl).trans z0
          rw [hb2] at n0
          rw [hk] at m0
          have HAT2 := hide hat2
          rw [if_neg (by rw [hk]; decide), List.append_nil] at HTK
          obtain ⟨ba, bc, hbv⟩ := ownsRow_slice HBE.out
          generalize (begs (EE.take i)).length = bn at hbv
          subst hbv
          clear a0 a1 a2 a3 a4 z0 hd hb1 hat hat2 din hk hb2
          generalize d.tick = dt at *
          generalize d.job = dj at *
          generalize d.task = dk at *
          generalize d.deadline = dl at *
          have hq1 : Below wr.heap.size wr (wr.alloc (.cells #[.int .i64 2, .int .i64 dt, .int .i64 dj, .int .i64 dk, .int .i64 dl] 53)) := (Below.refl _ _).alloc (Nat.le_refl _) _
          have HQ1 := hide hq1
          clear hq1
          go_wp2_with fail
          go_roundg (el - (i + 1))
          case measure => have := HG.out; omega
          case rel => exact ⟨i + 1, e, rfl, by go_num, rfl, by omega, HAT2.out, he0, he1, by rw [HTK.out]; exact HBE.out.later HQ1.out, HB.out.trans (HQ1.out.mono hzr)⟩
        · rw [hk] at m0
          rw [hj] at m2
          have HAT2 := hide hat2
          rw [if_neg (by rw [hk]; decide), List.append_nil] at HTK
          obtain ⟨ba, bc, hbv⟩ := ownsRow_slice HBE.out
          generalize (begs (EE.take i)).length = bn at hbv
          subst hbv
          clear a0 a1 a2 a3 a4 hd hat hat2 din hk hj
          generalize d.tick = dt at *
          generalize d.task = dk at *
          generalize d.deadline = dl at *
          have hq1 : Below wr.heap.size wr (wr.alloc (.cells #[.int .i64 3, .int .i64 dt, .int .i64 (-1), .int .i64 dk, .int .i64 dl] 53)) := (Below.refl _ _).alloc (Nat.le_refl _) _
          have HQ1 := hide hq1
          have hpp : ¬ dt < e := by omega
          clear hq1
          go_wp2_with fail
          go_roundg (el - (i + 1))
          case measure => have := HG.out; omega
          case rel => exact ⟨i + 1, e, rfl, by go_num, rfl, by omega, HAT2.out, he0, he1, by rw [HTK.out]; exact HBE.out.later HQ1.out, HB.out.trans (HQ1.out.mono hzr)⟩
      · have hii : ¬ (i : Int) < (el : Int) := by omega
        have htk : EE.take i = EE := List.take_of_length_le (by rw [HEL.out]; omega)
        rw [htk] at HBE
        have HBLN : Hid ((begs EE).length ≤ el) := by rw [Hid, ← HEL.out]; exact List.length_filter_le _ _
        have HBIN : Hid (∀ b ∈ begs EE, EvIn c b) := fun b hb => HEIN.out b (List.mem_filter.1 hb).1
        generalize begs EE = BB at *
        obtain ⟨ba, bc, hbv⟩ := ownsRow_slice HBE.out
        generalize hbl9 : BB.length = bl at *
        have HBL9 := hide hbl9
        have hblE := HBLN.out
        subst hbv
        obtain ⟨W8, hw8⟩ : ∃ W, W = wr := ⟨_, rfl⟩
        subst hw8
        clear hat htk hbl9
        go_wp2_with fail
        go_loopg [20] bl (fun g iv wr => ∃ a : Nat, iv = .int .i64 a ∧ g = bl - a ∧ a ≤ bl ∧ Below W8.heap.size W8 wr)
        case atStart => exact ⟨0, rfl, by omega, by omega, Below.refl _ _⟩
        case round =>
          obtain ⟨a, rfl, hga, hal, hba⟩ := hrel
          have HGA := hide hga
          have HBA := hide hba
          have hza := hba.size
          clear hga hba
          obtain ⟨W9, hw9⟩ : ∃ W, W = wr := ⟨_, rfl⟩
          subst hw9
          by_cases hab : a < bl
          · have haI : (a : Int) < (bl : Int) := by omega
            have hwa : IntKind.i64.wrap ((a : Int) + 1) = (a : Int) + 1 := IntWalk.i64_in _ ⟨by omega, by omega⟩
            obtain ⟨A, hA⟩ := get_of_lt (l := BB) (k := a) (by rw [HBL9.out]; exact hab)
            obtain ⟨bg, bc', hbv2, hbgl, -, a0, a1, a2, a3, a4⟩ := HBE.out.at hA
            simp only [Value.slice.injEq] at hbv2
            obtain ⟨rfl, -, rfl⟩ := hbv2
            have ain := HBIN.out A (List.mem_of_getElem? hA)
            go_wp2_with fail
            go_loopg [21] (bl - (a + 1)) (fun g kv wr => ∃ k : Nat, kv = .int .i64 k ∧ g = bl - k ∧ a + 1 ≤ k ∧ k ≤ bl ∧ Below W9.heap.size W9 wr)
            case atStart => exact ⟨a + 1, by go_num, rfl, by omega, by omega, Below.refl _ _⟩
            case round =>
              obtain ⟨k, rfl, hgk, hka, hkb, hbk⟩ := hrel
              have HGK := hide hgk
              have HBK := hide hbk
              have hzk := hbk.size
              clear hgk hbk
              by_cases hkl2 : k < bl
              · have hkI : (k : Int) < (bl : Int) := by omega
                obtain ⟨Bv, hBv⟩ := get_of_lt (l := BB) (k := k) (by rw [HBL9.out]; exact hkl2)
                obtain ⟨bg2, bc2, hbv3, -, -, b0, b1, b2, b3, b4⟩ := HBE.out.at hBv
                simp only [Value.slice.injEq, Option.some.injEq, Addr.mk.injEq] at hbv3
                obtain ⟨⟨rfl, -⟩, -, -⟩ := hbv3
                have bin := HBIN.out Bv (List.mem_of_getElem? hBv)
                have hrb : RBB c A Bv := by
                  have h1 := List.pairwise_iff_getElem.1 HORD.out a k (by rw [HBL9.out]; exact hab) (by rw [HBL9.out]; exact hkl2) (by omega)
                  rw [List.getElem?_eq_getElem (by rw [HBL9.out]; exact hab)] at hA
                  rw [List.getElem?_eq_getElem (by rw [HBL9.out]; exact hkl2)] at hBv
                  simp only [Option.some.injEq] at hA hBv
                  rw [hA, hBv] at h1
                  exact h1
                have hW : Below W8.heap.size W8 wr := HBA.out.trans (HBK.out.mono hza)
                have hbgr : bg < wr.heap.size := by omega
                have p0 := (hW.cell (p := ⟨bg, a * 5, none⟩) hbgl).trans a0
                have p1 := (hW.cell (p := ⟨bg, a * 5 + 1, none⟩) hbgl).trans a1
                have p2 := (hW.cell (p := ⟨bg, a * 5 + 2, none⟩) hbgl).trans a2
                have p3 := (hW.cell (p := ⟨bg, a * 5 + 3, none⟩) hbgl).trans a3
                have p4 := (hW.cell (p := ⟨bg, a * 5 + 4, none⟩) hbgl).trans a4
                have r0 := (hW.cell (p := ⟨bg, k * 5, none⟩) hbgl).trans b0
                have r1 := (hW.cell (p := ⟨bg, k * 5 + 1, none⟩) hbgl).trans b1
                have r2 := (hW.cell (p := ⟨bg, k * 5 + 2, none⟩) hbgl).trans b2
                have r3 := (hW.cell (p := ⟨bg, k * 5 + 3, none⟩) hbgl).trans b3
                have r4 := (hW.cell (p := ⟨bg, k * 5 + 4, none⟩) hbgl).trans b4
                have hBVw : Below V.heap.size V wr := HBV.out.trans (hW.mono (by omega))
                obtain ⟨k2, k4, k5, hkl⟩ := HKC.out wr hBVw
                obtain ⟨tn, htn⟩ : ∃ tn : Nat, Bv.task = tn := ⟨Bv.task.toNat, by have := bin.t0; omega⟩
                have htl : tn < c.tasks.length := by have := bin.t1; omega
                obtain ⟨tk, htk⟩ := get_of_lt (l := c.tasks) (k := tn) htl
                have hdue : dueOf c Bv.task = tk.due := by simp [dueOf, htn, htk]
                have hdin := dueOf_in HOK.out bin.t0 bin.t1
                have t5 : wr.cell? ⟨sb, so + tn * 3 + 1, none⟩ = some (.int .i64 tk.due) := (hBVw.cell (p := ⟨sb, so + tn * 3 + 1, none⟩) hsb).trans (HSC.out tn tk htk).2.1
                have hsbw : sb < wr.heap.size := by have := hBVw.size; omega
                have htI : (tn : Int) < (n : Int) := by have := HN.out; omega
                unfold RBB at hrb
                rw [hdue] at hrb hdin
                rw [htn] at r3
                obtain ⟨hjn, hrb⟩ := hrb
                have u1 := ain.a0
                have u2 := ain.a1
                have u3 := bin.d0
                have u4 := bin.d1
                clear b0 b1 b2 b3 b4 hW hBVw htk hdue htl htn bin hBv
                generalize A.kind = A0 at *
                generalize A.tick = A1 at *
                generalize A.job = A2 at *
                generalize A.task = A3 at *
                generalize A.deadline = A4 at *
                generalize Bv.kind = B0 at *
                generalize Bv.tick = B1 at *
                generalize Bv.job = B2 at *
                generalize Bv.deadline = B4 at *
                generalize tk.due = du at *
                have HQ : Hid (Below wr.heap.size wr ((wr.alloc (.cells #[.int .i64 A0, .int .i64 A1, .int .i64 A2, .int .i64 A3, .int .i64 A4] 53)).alloc (.cells #[.int .i64 B0, .int .i64 B1, .int .i64 B2, .int .i64 tn, .int .i64 B4] 53))) := ((Below.refl _ _).alloc (Nat.le_refl _) _).alloc (by simp) _
                have hje : (A2 == B2) = false := by simp [hjn]
                have hq2 : Below (wr.heap.size + 1) (wr.alloc (.cells #[.int .i64 A0, .int .i64 A1, .int .i64 A2, .int .i64 A3, .int .i64 A4] 53)) ((wr.alloc (.cells #[.int .i64 A0, .int .i64 A1, .int .i64 A2, .int .i64 A3, .int .i64 A4] 53)).alloc (.cells #[.int .i64 B0, .int .i64 B1, .int .i64 B2, .int .i64 tn, .int .i64 B4] 53)) := (Below.refl _ _).alloc (by simp) _
                have HAB : Hid (Blk ((wr.alloc (.cells #[.int .i64 A0, .int .i64 A1, .int .i64 A2, .int .i64 A3, .int .i64 A4] 53)).alloc (.cells #[.int .i64 B0, .int .i64 B1, .int .i64 B2, .int .i64 tn, .int .i64 B4] 53)) wr.heap.size #[.int .i64 A0, .int .i64 A1, .int .i64 A2, .int .i64 A3, .int .i64 A4] 53) := (Blk.new wr _ _).later hq2 (by omega)
                have HBB : Hid (Blk ((wr.alloc (.cells #[.int .i64 A0, .int .i64 A1, .int .i64 A2, .int .i64 A3, .int .i64 A4] 53)).alloc (.cells #[.int .i64 B0, .int .i64 B1, .int .i64 B2, .int .i64 tn, .int .i64 B4] 53)) (wr.heap.size + 1) #[.int .i64 B0, .int .i64 B1, .int .i64 B2, .int .i64 tn, .int .i64 B4] 53) := by
                  have := Blk.new (wr.alloc (.cells #[.int .i64 A0, .int .i64 A1, .int .i64 A2, .int .i64 A3, .int .i64 A4] 53)) #[.int .i64 B0, .int .i64 B1, .int .i64 B2, .int .i64 tn, .int .i64 B4] 53
                  rw [show (wr.alloc (.cells #[.int .i64 A0, .int .i64 A1, .int .i64 A2, .int .i64 A3, .int .i64 A4] 53)).heap.size = wr.heap.size + 1 from by simp] at this
                  exact this
                have HSZ : Hid ((((wr.alloc (.cells #[.int .i64 A0, .int .i64 A1, .int .i64 A2, .int .i64 A3, .int .i64 A4] 53)).alloc (.cells #[.int .i64 B0, .int .i64 B1, .int .i64 B2, .int .i64 tn, .int .i64 B4] 53))).heap.size = wr.heap.size + 2) := by rw [Hid]; simp
                clear hq2
                go_upto_region 42 with (fail)
                generalize ((wr.alloc (.cells #[.int .i64 A0, .int .i64 A1, .int .i64 A2, .int .i64 A3, .int .i64 A4] 53)).alloc (.cells #[.int .i64 B0, .int .i64 B1, .int .i64 B2, .int .i64 tn, .int .i64 B4] 53)) = WQ at *
                have o1 : WQ.cell? ⟨wr.heap.size, 1, none⟩ = some (.int .i64 A1) := HAB.out.cell 1
                have o2 : WQ.cell? ⟨wr.heap.size, 2, none⟩ = some (.int .i64 A2) := HAB.out.cell 2
                have o4 : WQ.cell? ⟨wr.heap.size, 4, none⟩ = some (.int .i64 A4) := HAB.out.cell 4
                have v2 : WQ.cell? ⟨wr.heap.size + 1, 2, none⟩ = some (.int .i64 B2) := HBB.out.cell 2
                have v3 : WQ.cell? ⟨wr.heap.size + 1, 3, none⟩ = some (.int .i64 tn) := HBB.out.cell 3
                have v4 : WQ.cell? ⟨wr.heap.size + 1, 4, none⟩ = some (.int .i64 B4) := HBB.out.cell 4
                have q2 := (HQ.out.cell (p := ⟨w1.heap.size, 2, none⟩) hkl).trans k2
                have q5 := (HQ.out.cell (p := ⟨w1.heap.size, 5, none⟩) hkl).trans k5
                have q6 := (HQ.out.cell (p := ⟨sb, so + tn * 3 + 1, none⟩) hsbw).trans t5
                have l1 : wr.heap.size < WQ.heap.size := by have := HSZ.out; omega
                have l2 : wr.heap.size + 1 < WQ.heap.size := by have := HSZ.out; omega
                have l3 : w1.heap.size < WQ.heap.size := by omega
                have l4 : sb < WQ.heap.size := by omega
                have ht0 : (0 : Int) ≤ (tn : Int) := by omega
                have HRB := hide hrb
                clear p0 p1 p2 p3 p4 r0 r1 r2 r3 r4 k2 k4 k5 t5 HAB HBB hrb
                by_cases hh : B4 - du ≤ A1 - c.poll
                · have hnb := HRB.out hh
                  by_cases h4 : B4 = A4
                  · have h5 : ¬ B2 < A2 := by omega
                    have h6 : ¬ B4 < A4 := by omega
                    have h7 : decide (B4 < A4) = false := decide_eq_false h6
                    have h8 : decide (B2 < A2) = false := decide_eq_false h5
                    subst h4
                    go_quiet ((fail))
                    go_wp2_with fail
                    go_roundg (bl - (k + 1))
                    case measure => have := HGK.out; omega
                    case rel => exact ⟨k + 1, by go_num, rfl, by omega, by omega, below_drewN (HBK.out.trans (HQ.out.mono hzk)) _⟩
                  · have h6 : ¬ B4 < A4 := by omega
                    have h7 : decide (B4 < A4) = false := decide_eq_false h6
                    have h8 : (B4 == A4) = false := by simp [h4]
                    go_quiet ((fail))
                    go_wp2_with fail
                    go_roundg (bl - (k + 1))
                    case measure => have := HGK.out; omega
                    case rel => exact ⟨k + 1, by go_num, rfl, by omega, by omega, below_drewN (HBK.out.trans (HQ.out.mono hzk)) _⟩
                · have h9 : decide (B4 - du ≤ A1 - c.poll) = false := decide_eq_false hh
                  go_quiet ((fail))
                  go_wp2_with fail
                  go_roundg (bl - (k + 1))
                  case measure => have := HGK.out; omega
                  case rel => exact ⟨k + 1, by go_num, rfl, by omega, by omega, below_drewN (HBK.out.trans (HQ.out.mono hzk)) _⟩
              · have hkI : ¬ (k : Int) < (bl : Int) := by omega
                go_wp2_with fail
                go_roundg (bl - (a + 1))
                case measure => have := HGA.out; omega
                case rel => exact ⟨a + 1, by go_num, rfl, by omega, HBA.out.trans (HBK.out.mono hza)⟩
          · have haI : ¬ (a : Int) < (bl : Int) := by omega
            go_wp2_with fail
            go_ret
            exact ⟨rfl, HBW.out _ (HBV.out.trans (HBA.out.mono (by omega)))⟩

end Go.Proofs.Ythloffgebebijaa
