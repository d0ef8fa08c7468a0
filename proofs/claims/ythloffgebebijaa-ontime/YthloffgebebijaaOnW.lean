/- OnW: the walk of tillerkeep.OnTime: it answers true. -/
import Derived.Test.YthloffgebebijaaOnG
import Derived.Test.YthloffgebebijaaSetD
import Derived.Test.YthloffgebebijaaAheadK
import Derived.Test.YthloffgebebijaaMath
import Derived.Deep.DeepCutAuto
import Derived.Deep.CutBlock
import Derived.Deep.LoopGhost
import Derived.Deep.RegionHeld
import Derived.Deep.DrawnRows
namespace Go.Proofs.Ythloffgebebijaa
open Go.RowKit Go.MuLone
attribute [local go_sem ↓] Go.wp_at_zero Go.wp_at_succ

theorem settingsC_any (lines room price : Int) (v : Value) (rs : List Raw5) (easy : Bool) (B : Nat) (w : World) (h1 : In64 lines) (h2 : In64 room) (h3 : In64 price) (hv : Raws w B v rs) (hB : B ≤ w.heap.size) (hr : ∀ r ∈ rs, r.fits) (hlen : rs.length ≤ 140737488355328) :
    Calls Try.prog 8 #[.int .i64 lines, .int .i64 room, .int .i64 price, v, .bool easy] w fun e w' => ∃ v', e = .returned v' ∧ CfC w' w'.heap.size v' (mkCfg lines room price rs easy) ∧ Below w.heap.size w w' := by
  cases easy
  · exact settingsC_false lines room price v rs B w h1 h2 h3 hv hB hr hlen
  · exact settingsC_true lines room price v rs B w h1 h2 h3 hv hB hr hlen

theorem info_bool : (Try.prog.info? 4).map (fun i => (i.zero, i.size, i.bytes)) = some (some (.bool false), 1, 1) := by kernel_rfl
theorem madeB (n : Nat) : (madeCells #[.bool false] n).toList = List.replicate n (.bool false) := by
  apply List.ext_getElem?
  intro i
  by_cases h : i < n
  · rw [List.getElem?_replicate, if_pos h]
    simp [madeCells, h, Nat.mod_one]
  · rw [List.getElem?_eq_none (by simp [madeCells]; omega), List.getElem?_eq_none (by simp; omega)]

theorem setB (ws : List Bool) (k : Nat) : (ws.map Value.bool).toArray.setIfInBounds k (.bool true) = ((ws.set k true).map Value.bool).toArray := by
  rw [List.setIfInBounds_toArray, List.map_set]

set_option maxRecDepth 100000 in
set_option maxHeartbeats 20000000 in
theorem ontime_true (lines room price : Int) (vr vc : Value) (rs : List Raw5) (easy : Bool) (cs : List Come5) (B : Nat) (w : World) (h1 : In64 lines) (h2 : In64 room) (h3 : In64 price)
    (hvr : Raws w B vr rs) (hvc : ComesR w B vc cs) (hB : B ≤ w.heap.size) (hr : ∀ r ∈ rs, r.fits) (hlen : rs.length ≤ 140737488355328) (hcl : cs.length ≤ 140737488355328) (hci : ∀ o ∈ cs, o.fits) :
    Calls Try.prog 7 #[.int .i64 lines, .int .i64 room, .int .i64 price, vr, .bool easy, vc] w fun e w' => e = .returned (.bool true) ∧ Below w.heap.size w w' := by
  have HS := hide (settingsC_any lines room price vr rs easy B w h1 h2 h3 hvr hB hr hlen)
  have HOK := hide (mkCfg_ok lines room price rs easy)
  generalize mkCfg lines room price rs easy = c at *
  obtain ⟨ra, rcap, rfl, -⟩ := hvr
  obtain ⟨ca, ccap, rfl, hc⟩ := hvc
  have HC := hide hc
  have HCI := hide hci
  generalize hrl : rs.length = rl at *
  generalize hCL : cs.length = cl at *
  have HCLn := hide hCL
  obtain ⟨⟨c1, c2⟩, ⟨c3, c4⟩, ⟨c5, c6⟩, ⟨c7, c8⟩, ⟨c9, c10⟩, ⟨c11, c12⟩, c13⟩ := cfgNum HOK.out
  clear h1 h2 h3 hr hc hci hrl hCL c13
  go_enter Try.func7, Try.ntmps7
  go_wp2_with fail
  refine HS.out.mono ?_
  rintro e w1 ⟨v1, rfl, cf1, b1⟩
  obtain ⟨s1, rfl, t1⟩ := cf1
  obtain ⟨sa, scap, rfl, t1r⟩ : ∃ a cap, s1 = .slice a c.tasks.length cap ∧ True := by
    obtain ⟨a, cap, h, _⟩ := t1
    exact ⟨a, cap, h, trivial⟩
  have hz1 := b1.size
  have hbk : Below w1.heap.size w1 (w1.alloc (.cells #[.int .i64 c.lines, .int .i64 c.room, .int .i64 c.poll, .int .i64 c.idle, .int .i64 c.sw, .slice sa c.tasks.length scap] 26)) := (Below.refl _ _).alloc (Nat.le_refl _) _
  have hT1 := t1.later hbk (Nat.le_refl _)
  have hcfC : CfC (w1.alloc (.cells #[.int .i64 c.lines, .int .i64 c.room, .int .i64 c.poll, .int .i64 c.idle, .int .i64 c.sw, .slice sa c.tasks.length scap] 26)) w1.heap.size (.agg #[.int .i64 c.lines, .int .i64 c.room, .int .i64 c.poll, .int .i64 c.idle, .int .i64 c.sw, .slice sa c.tasks.length scap]) c := ⟨_, rfl, hT1⟩
  have HCK := hide (check_yes w1.heap.size _ c _ hcfC (by simp) HOK.out)
  have HT1 := hide hT1
  have HB1 := hide b1
  have HK1 := hide (Blk.new w1 #[.int .i64 c.lines, .int .i64 c.room, .int .i64 c.poll, .int .i64 c.idle, .int .i64 c.sw, .slice sa c.tasks.length scap] 26)
  have hzk : (w1.alloc (.cells #[.int .i64 c.lines, .int .i64 c.room, .int .i64 c.poll, .int .i64 c.idle, .int .i64 c.sw, .slice sa c.tasks.length scap] 26)).heap.size = w1.heap.size + 1 := by simp
  have HZK := hide hzk
  have HBK := hide hbk
  clear t1 b1 HS hzk hbk hT1 hcfC
  go_wp2_with fail
  refine HCK.out.mono ?_
  generalize w1.alloc (.cells #[.int .i64 c.lines, .int .i64 c.room, .int .i64 c.poll, .int .i64 c.idle, .int .i64 c.sw, .slice sa c.tasks.length scap] 26) = V1 at *
  rintro e w2 ⟨bg, rfl, hbg, hbb, q2⟩
  have hz2 := q2.size
  have hzv1 : w1.heap.size < V1.heap.size := by rw [HZK.out]; omega
  have hK2 := HK1.out.later q2 hzv1
  have n0 : w2.cell? ⟨w1.heap.size, 0, none⟩ = some (.int .i64 c.lines) := hK2.cell 0
  have n1 : w2.cell? ⟨w1.heap.size, 1, none⟩ = some (.int .i64 c.room) := hK2.cell 1
  have n2 : w2.cell? ⟨w1.heap.size, 2, none⟩ = some (.int .i64 c.poll) := hK2.cell 2
  have n3 : w2.cell? ⟨w1.heap.size, 3, none⟩ = some (.int .i64 c.idle) := hK2.cell 3
  have n4 : w2.cell? ⟨w1.heap.size, 4, none⟩ = some (.int .i64 c.sw) := hK2.cell 4
  have n5 : w2.cell? ⟨w1.heap.size, 5, none⟩ = some (.slice sa c.tasks.length scap) := hK2.cell 5
  have hwl := hK2.lt
  have hbr : Below w2.heap.size w2 (w2.alloc (.cells #[.int .i64 (whatI c), .slice (some ⟨bg, 0, none⟩) c.tasks.length c.tasks.length, .int .i64 (needI c)] 64)) := (Below.refl _ _).alloc (Nat.le_refl _) _
  have hTC := (HT1.out.later q2 (by omega)).later hbr (by omega)
  have hTV : Tasks (w2.alloc (.cells #[.int .i64 (whatI c), .slice (some ⟨bg, 0, none⟩) c.tasks.length c.tasks.length, .int .i64 (needI c)] 64)) w1.heap.size (.slice sa c.tasks.length scap) c.tasks := by
    obtain ⟨s, hs1, hs2⟩ := CfC.cf ⟨_, rfl, hTC⟩
    simp only [Value.agg.injEq, Array.mk.injEq, List.cons.injEq, and_true, true_and] at hs1
    subst hs1
    exact hs2
  have HOP := hide (opened_any w1.heap.size c sa scap _ hTV (by simp; omega) HOK.out)
  have HTV := hide hTV
  have HKV := hide (hK2.later hbr (by omega))
  have HRV := hide (Blk.new w2 #[.int .i64 (whatI c), .slice (some ⟨bg, 0, none⟩) c.tasks.length c.tasks.length, .int .i64 (needI c)] 64)
  have HBV := hide (hbb.later hbr hbb.lt)
  have hbl := hbb.lt
  have HZV : Hid ((w2.alloc (.cells #[.int .i64 (whatI c), .slice (some ⟨bg, 0, none⟩) c.tasks.length c.tasks.length, .int .i64 (needI c)] 64)).heap.size = w2.heap.size + 1) := by rw [Hid]; simp
  have HB0 : Hid (Below w.heap.size w (w2.alloc (.cells #[.int .i64 (whatI c), .slice (some ⟨bg, 0, none⟩) c.tasks.length c.tasks.length, .int .i64 (needI c)] 64))) := (HB1.out.trans (HBK.out.mono hz1)).trans ((q2.mono (by omega)).trans (hbr.mono (by omega)))
  clear q2 hK2 hbr hTC hTV hbb HCK HT1 HB1 HBK HK1 HZK
  go_wp2_with fail
  refine HOP.out.mono ?_
  generalize w2.alloc (.cells #[.int .i64 (whatI c), .slice (some ⟨bg, 0, none⟩) c.tasks.length c.tasks.length, .int .i64 (needI c)] 64) = V at *
  rintro e w3 ⟨H, X, S, rfl, p3, s3, hH3, q3⟩
  have hzv : w2.heap.size < V.heap.size := by rw [HZV.out]; omega
  obtain ⟨sb, so, rfl, hsb, hsc⟩ : ∃ b o, sa = some ⟨b, o, none⟩ ∧ b < V.heap.size ∧ ∀ i t, c.tasks[i]? = some t → TaskAt V V.heap.size b (o + i * 3) t := by
    obtain ⟨a, cap, he, h⟩ := HTV.out
    simp only [Value.slice.injEq] at he
    obtain ⟨rfl, _, rfl⟩ := he
    rcases h with h | ⟨b, o, hb1, hb2, hb3⟩
    · rw [h] at c11; simp at c11
    · refine ⟨b, o, hb1, by omega, fun i t hi => ?_⟩
      obtain ⟨x1, x2, s, x3, x4⟩ := hb3 i t hi
      obtain ⟨la, lc, hl1, hl2⟩ := x4
      refine ⟨x1, x2, s, x3, la, lc, hl1, hl2.imp id ?_⟩
      rintro ⟨b', o', y1, y2, y3⟩
      exact ⟨b', o', y1, by omega, y3⟩
  have HBO : Hid (∀ (k : Nat) t, c.tasks[k]? = some t → (intsV (c.tasks.map (boundI c)))[k]? = some (Value.int .i64 (boundOf c (k : Int)))) := fun k t hk => by simp [intsV, boundOf, hk]
  generalize hn : c.tasks.length = n at *
  have HN := hide hn
  have HST : Hid (OtS V w3 H X c (.slice (some ⟨sb, so, none⟩) n scap) 0) := OtS.opened p3 s3 hH3 q3 HOK.out
  have hz3 := q3.size
  have HSC := hide hsc
  have HKC : Hid (∀ w', Below V.heap.size V w' → (w'.cell? ⟨w1.heap.size, 5, none⟩ = some (.slice (some ⟨sb, so, none⟩) n scap) ∧ w1.heap.size < w'.heap.size) ∧ (w'.cell? ⟨w2.heap.size, 0, none⟩ = some (.int .i64 (whatI c)) ∧ w'.cell? ⟨w2.heap.size, 1, none⟩ = some (.slice (some ⟨bg, 0, none⟩) n n) ∧ w2.heap.size < w'.heap.size) ∧ bg < w'.heap.size ∧ ∀ (k : Nat) t, c.tasks[k]? = some t → w'.cell? ⟨bg, k, none⟩ = some (.int .i64 (boundOf c (k : Int)))) := fun w' hb => by
    have hk := HKV.out.later hb (by omega)
    have hr := HRV.out.later hb (by omega)
    have hbo := HBV.out.later hb (by omega)
    refine ⟨⟨hk.cell 5, hk.lt⟩, ⟨hr.cell 0, hr.cell 1, hr.lt⟩, hbo.lt, fun k t hkt => ?_⟩
    rw [hbo.cell k]
    simpa using HBO.out k t hkt
  have HBW : Hid (∀ w', Below V.heap.size V w' → Below w.heap.size w w') := fun w' hb => HB0.out.trans (hb.mono HB0.out.size)
  have hr1 : w3.cell? ⟨w2.heap.size, 1, none⟩ = some (.slice (some ⟨bg, 0, none⟩) n n) := (HKC.out w3 q3).2.1.2.1
  have hk5 : w3.cell? ⟨w1.heap.size, 5, none⟩ = some (.slice (some ⟨sb, so, none⟩) n scap) := (HKC.out w3 q3).1.1
  have hl21 := (HKC.out w3 q3).2.1.2.2
  have hl11 := (HKC.out w3 q3).1.2
  clear p3 s3 hH3 q3 HOP hsc HTV hn HB0 HKV HRV HBV n0 n1 n2 n3 n4 n5 hwl
  go_upto_block 0 with (fail)
  go_cut [17] (fun okv wx => ∃ q : Nat, okv = .bool true ∧ q ≤ 60 ∧ OtS V wx H X c (.slice (some ⟨sb, so, none⟩) n scap) q)
  case first => as_aux_lemma =>
    go_wp2_with fail
    go_loopg [17, 18] 60 (fun g okv iv wr => ∃ q : Nat, okv = .bool true ∧ iv = .int .i64 q ∧ g = 60 - q ∧ q ≤ 60 ∧ q ≤ cl ∧ OtS V wr H X c (.slice (some ⟨sb, so, none⟩) n scap) q)
    case atStart => exact ⟨0, rfl, rfl, rfl, by omega, by omega, HST.out⟩
    case round =>
      obtain ⟨q, rfl, rfl, hg, hq6, hqc, hs⟩ := hrel
      have HG := hide hg
      have HSS := hide hs
      clear hg hs HST
      by_cases hlt : q < cl
      · have hqi : (q : Int) < (cl : Int) := by omega
        by_cases hl6 : q < 60
        · have hq60 : (q : Int) < 60 := by omega
          obtain ⟨o, ho⟩ := get_of_lt (l := cs) (k := q) (by rw [HCLn.out]; exact hlt)
          rcases HC.out with he | ⟨cb, co, rfl, hcb, hcc⟩
          · rw [he] at ho; simp at ho
          obtain ⟨m0, m1, m2, m3, m4⟩ := (hcc q o ho).later (HBW.out wr HSS.out.bel) (by omega)
          have hcbw : cb < wr.heap.size := by have := (HBW.out wr HSS.out.bel).size; omega
          have HCO := hide (OtS.comes HN.out HSS.out hl6 hsb HSC.out HOK.out (HCI.out o (List.mem_of_getElem? ho)))
          clear hcc ho
          go_wp2_with fail
          refine HCO.out.mono ?_
          rintro e w4 ⟨rfl, p4⟩
          have HP4 := hide p4
          clear p4 HCO
          go_wp2_with fail
          go_roundg (60 - (q + 1))
          case measure => have := HG.out; omega
          case rel => exact ⟨q + 1, rfl, by go_num, rfl, by omega, by omega, HP4.out⟩
        · have hq60 : ¬ (q : Int) < 60 := by omega
          go_wp2_with fail
          go_meet
          case rel => exact ⟨q, rfl, hq6, HSS.out⟩
      · have hqi : ¬ (q : Int) < (cl : Int) := by omega
        go_wp2_with fail
        go_meet
        case rel => exact ⟨q, rfl, hq6, HSS.out⟩
  case rest =>
    obtain ⟨q, rfl, hq6, hs⟩ := hcut
    have HRN := hide (hs.run hq6)
    clear hs HST HC HCI hr1 hk5
    go_wp2_with fail
    refine HRN.out.mono ?_
    rintro e w4 ⟨rfl, h, p4⟩
    have HCN := hide p4.counts
    obtain ⟨sv, dv, hHl, g6, -⟩ := p4.rows
    have hfin := p4.fin
    simp only [countsV] at HCN
    obtain ⟨f1, f2, f3, f4, f5, f6, f7, f8, f9⟩ := hfin
    rw [f1, f2, f3, f4] at HCN
    have d0 := p4.hin.ex.rd.d0
    have l0 := p4.hin.ex.rd.l0
    simp only at d0 l0
    have hsl := p4.sl
    have hdl := p4.dl
    have HF7 := hide f7
    have HF8 := hide f8
    have HF9 := hide f9
    generalize h.x.clock = kk at *
    generalize h.x.ct.jobs = jj at *
    generalize h.x.ct.done = dd at *
    generalize h.x.ct.lost = ll at *
    generalize h.x.jobs.length = wt at *
    generalize hSN : h.sent.length = sn at *
    have HSN := hide hSN
    generalize hDN : h.done.length = dn at *
    have HDN := hide hDN
    have f6' : dd + (wt : Int) = jj := f6.symm
    clear p4 HRN f1 f2 f3 f4 f7 f8 f9 f6 hSN hDN
    go_wp2_with fail
    refine HCN.out.mono ?_
    rintro e w5 ⟨rfl, p5⟩
    have hq6 : Below w5.heap.size w5 (w5.alloc (.cells #[.int .i64 kk, .int .i64 jj, .int .i64 dd, .int .i64 wt, .int .i64 ll, .int .i64 0, .int .i64 0, .int .i64 0, .int .i64 0] 50)) := (Below.refl _ _).alloc (Nat.le_refl _) _
    have HP6 := hide (p5.later hq6)
    have HN6 := hide (Blk.new w5 #[.int .i64 kk, .int .i64 jj, .int .i64 dd, .int .i64 wt, .int .i64 ll, .int .i64 0, .int .i64 0, .int .i64 0, .int .i64 0] 50)
    clear p5 hq6 HCN g6 hHl
    go_upto_region 14 with (fail)
    generalize w5.alloc (.cells #[.int .i64 kk, .int .i64 jj, .int .i64 dd, .int .i64 wt, .int .i64 ll, .int .i64 0, .int .i64 0, .int .i64 0, .int .i64 0] 50) = W6 at *
    obtain ⟨sv, dv, hHl, g6, g8, g9, hsp, hep⟩ := HP6.out.rows
    obtain ⟨va, vc, hsv⟩ := ownsRow_slice hsp
    obtain ⟨da, dc, hdv⟩ := ownsRow_slice hep
    rw [HSN.out] at hsv
    rw [HDN.out] at hdv
    subst hsv
    subst hdv
    have HSP := hide hsp
    have HEP := hide hep
    have m1 : W6.cell? ⟨w5.heap.size, 1, none⟩ = some (.int .i64 jj) := HN6.out.cell 1
    have m2 : W6.cell? ⟨w5.heap.size, 2, none⟩ = some (.int .i64 dd) := HN6.out.cell 2
    have m3 : W6.cell? ⟨w5.heap.size, 3, none⟩ = some (.int .i64 wt) := HN6.out.cell 3
    have m4 : W6.cell? ⟨w5.heap.size, 4, none⟩ = some (.int .i64 ll) := HN6.out.cell 4
    have m5 : W6.cell? ⟨w5.heap.size, 5, none⟩ = some (.int .i64 0) := HN6.out.cell 5
    have m6 : W6.cell? ⟨w5.heap.size, 6, none⟩ = some (.int .i64 0) := HN6.out.cell 6
    have m7 : W6.cell? ⟨w5.heap.size, 7, none⟩ = some (.int .i64 0) := HN6.out.cell 7
    have m8 : W6.cell? ⟨w5.heap.size, 8, none⟩ = some (.int .i64 0) := HN6.out.cell 8
    have hNl := HN6.out.lt
    have hbV6 := HP6.out.cm.bel
    obtain ⟨⟨k5, hkl1⟩, ⟨r0, r1, hrl⟩, hbgl, -⟩ := HKC.out W6 hbV6
    have HBV6 := hide hbV6
    have hwj : IntKind.i64.wrap (jj + ll) = (sn : Int) := by rw [f5]; exact IntWalk.i64_in _ ⟨by omega, by omega⟩
    have hwd : IntKind.i64.wrap (dd + (wt : Int)) = jj := by rw [f6']; exact IntWalk.i64_in _ ⟨by omega, by omega⟩
    clear hsp hep hbV6
    go_quiet ((fail))
    have HP7 := hide (HP6.out.later (below_drewN (Below.refl _ _) nq))
    have HN7 := hide (HN6.out.later (below_drewN (Below.refl _ _) nq) HN6.out.lt)
    have HSP7 : Hid (SentP (W6.drewN nq) V.heap.size (.slice va sn vc) h.sent) := HSP.out.same fun k hk => rfl
    have HEP7 : Hid (EvP (W6.drewN nq) V.heap.size (.slice da dn dc) h.done) := HEP.out.same fun k hk => rfl
    have g8' : (W6.drewN nq).cell? ⟨H, 8, none⟩ = some (.slice va sn vc) := g8
    have g9' : (W6.drewN nq).cell? ⟨H, 9, none⟩ = some (.slice da dn dc) := g9
    have hz7 : (W6.drewN nq).heap.size = W6.heap.size := rfl
    clear HP6 HN6 HSP HEP HBV6 m1 m2 m3 m4 m5 m6 m7 m8 g6 g8 g9 k5 r0 r1 hwj hwd
    generalize W6.drewN nq = W7 at *
    rw [← hz7] at hHl hNl hkl1 hrl hbgl
    have hbV7 := HP7.out.cm.bel
    obtain ⟨⟨k5, -⟩, ⟨r0, r1, -⟩, -, hbo⟩ := HKC.out W7 hbV7
    have m2 : W7.cell? ⟨w5.heap.size, 2, none⟩ = some (.int .i64 dd) := HN7.out.cell 2
    have m4 : W7.cell? ⟨w5.heap.size, 4, none⟩ = some (.int .i64 ll) := HN7.out.cell 4
    have HBO7 := hide hbo
    have HBV7 := hide hbV7
    clear hbo hbV7
    have HALL : Hid (∀ w', Below W7.heap.size W7 w' → H < w'.heap.size ∧ w'.cell? ⟨H, 8, none⟩ = some (.slice va sn vc) ∧ w'.cell? ⟨H, 9, none⟩ = some (.slice da dn dc) ∧ w'.cell? ⟨w1.heap.size, 5, none⟩ = some (.slice (some ⟨sb, so, none⟩) n scap) ∧ w1.heap.size < w'.heap.size ∧ w'.cell? ⟨w2.heap.size, 1, none⟩ = some (.slice (some ⟨bg, 0, none⟩) n n) ∧ w2.heap.size < w'.heap.size ∧ bg < w'.heap.size ∧ sb < w'.heap.size) := fun w' hb => by
      have hs := hb.size
      have hs2 := HBV7.out.size
      exact ⟨by omega, (hb.cell (p := ⟨H, 8, none⟩) hHl).trans g8', (hb.cell (p := ⟨H, 9, none⟩) hHl).trans g9', (hb.cell (p := ⟨w1.heap.size, 5, none⟩) hkl1).trans k5, by omega, (hb.cell (p := ⟨w2.heap.size, 1, none⟩) hrl).trans r1, by omega, by omega, by omega⟩
    go_upto_region 17 with (fail)
    have HFW : Hid ((whatI c == 1) = true → whatI c = 1) := by rw [Hid]; simp
    generalize (whatI c == 1) = F at *
    go_cut [142] (fun v wx => v = .bool false ∧ Below W7.heap.size W7 wx)
    case first => as_aux_lemma =>
      cases F
      · go_quiet ((fail))
        go_wp2_with fail
        go_meet
        case rel => exact ⟨rfl, below_drewN (Below.refl _ _) _⟩
      · obtain ⟨e1, e2⟩ := HF7.out (HFW.out rfl)
        rw [e1] at m4
        rw [e2] at m2
        go_quiet ((fail))
        go_wp2_with fail
        go_meet
        case rel => exact ⟨rfl, below_drewN (Below.refl _ _) _⟩
    case rest =>
      obtain ⟨rfl, hb8⟩ := hcut
      obtain ⟨wa, hwa⟩ : ∃ W, W = wc := ⟨_, rfl⟩
      subst hwa
      obtain ⟨hHc, y8, y9, y5, hw1c, yr, hw2c, hbgc, hsbc⟩ := HALL.out wa hb8
      have HB8 := hide hb8
      clear hb8 g8' g9' k5 r0 r1 m2 m4
      have hsn64 : (sn : Int) ≤ 60 := by omega
      obtain ⟨i0, hi, hz0, hzs, hzb⟩ := info_parts info_bool
      have HI := hide (And.intro hi (And.intro hz0 (And.intro hzs hzb)))
      clear hi hz0 hzs hzb
      go_wp2_with (at_make; go_must (refine wpList_make_full _ rfl _ _ 67 rfl wa.heap.size 4 i0 _ 1 Try.underlying67 HI.out.1 HI.out.2.1 HI.out.2.2.1 .i64 .i64 _ _ sn rfl rfl rfl rfl ?_ ?_ ?_ ?_))
      · rw [HI.out.2.2.2]; omega
      · unfold maxLen; omega
      · omega
      intro w9 o9 g9
      obtain ⟨L9, hg0⟩ := own_blk o9
      rw [madeB sn] at L9
      have HL9 := hide L9
      have HB9 : Hid (Below wa.heap.size wa w9) := ⟨g9.os, g9.tape, g9.output, g9.size, fun k hk => g9.block k hk (by simp)⟩
      clear o9 g9 L9 hg0
      go_wp2_with fail
      go_loopg [22] dn (fun g iv wr => ∃ (i : Nat) (ws : List Bool), iv = .int .i64 i ∧ g = dn - i ∧ i ≤ dn ∧ ws.length = sn ∧ Blk wr wa.heap.size (ws.map Value.bool).toArray 4 ∧ (∀ v, (metOf h.sent ws).count v = ((kinds 2 (h.done.take i)).map (em c)).count v) ∧ Below wa.heap.size wa wr)
      case atStart => exact ⟨0, List.replicate sn false, rfl, by omega, Nat.zero_le _, by simp, by rw [List.map_replicate]; exact HL9.out, fun v => by rw [met_none]; simp [kinds], HB9.out⟩
      case round =>
        obtain ⟨i, ws, rfl, hg, hil, hwl, hbw, hmt, hb⟩ := hrel
        have HG := hide hg
        have HWL := hide hwl
        have HBK := hide hbw
        have HMT := hide hmt
        have HB := hide hb
        have hzr := hb.size
        have hz8 := HB8.out.size
        have hbc : Below W7.heap.size W7 wr := HB8.out.trans (hb.mono hz8)
        have HBC := hide hbc
        have hbVw : Below V.heap.size V wr := HBV7.out.trans (hbc.mono HBV7.out.size)
        obtain ⟨hHr, z8, z9, z5, hw1r, zr, hw2r, hbgr, hsbr⟩ := HALL.out wr hbc
        clear hg hwl hbw hmt hb y8 y9 y5 yr HL9 HB9
        by_cases hlt : i < dn
        · have hii : (i : Int) < (dn : Int) := by omega
          obtain ⟨d, hd⟩ := get_of_lt (l := h.done) (k := i) (by rw [HDN.out]; exact hlt)
          obtain ⟨dg, dc', hdv, hdgl, -, a0, a1, a2, a3, a4⟩ := HEP7.out.at hd
          simp only [Value.slice.injEq] at hdv
          obtain ⟨rfl, -, rfl⟩ := hdv
          have hdr : dg < wr.heap.size := by have := hbc.size; omega
          have p0 := (hbc.cell (p := ⟨dg, i * 5, none⟩) hdgl).trans a0
          have p1 := (hbc.cell (p := ⟨dg, i * 5 + 1, none⟩) hdgl).trans a1
          have p2 := (hbc.cell (p := ⟨dg, i * 5 + 2, none⟩) hdgl).trans a2
          have p3 := (hbc.cell (p := ⟨dg, i * 5 + 3, none⟩) hdgl).trans a3
          have p4 := (hbc.cell (p := ⟨dg, i * 5 + 4, none⟩) hdgl).trans a4
          obtain ⟨t0, t1, hle, hfit⟩ := HF8.out d (List.mem_of_getElem? hd)
          have din := HP7.out.ein d (List.mem_of_getElem? hd)
          obtain ⟨tn, htn⟩ : ∃ tn : Nat, d.task = tn := ⟨d.task.toNat, by omega⟩
          obtain ⟨tk, htk⟩ := get_of_lt (l := c.tasks) (k := tn) (by omega)
          have hdue : dueOf c d.task = tk.due := by simp [dueOf, htn, htk]
          have HDUE : Hid (dueOf c (tn : Int) = tk.due) := by rw [Hid, ← htn]; exact hdue
          have hdin := dueOf_in HOK.out t0 t1
          have t5 : wr.cell? ⟨sb, so + tn * 3 + 1, none⟩ = some (.int .i64 tk.due) := (hbVw.cell (p := ⟨sb, so + tn * 3 + 1, none⟩) hsb).trans (HSC.out tn tk htk).2.1
          have t6 : wr.cell? ⟨bg, tn, none⟩ = some (.int .i64 (boundOf c (tn : Int))) := (HKC.out wr hbVw).2.2.2 tn tk htk
          have htI : (tn : Int) < (n : Int) := by have := HN.out; omega
          have ht0 : (0 : Int) ≤ (tn : Int) := by omega
          have hkt : kinds 2 (h.done.take (i + 1)) = kinds 2 (h.done.take i) ++ (if d.kind = 2 then [d] else []) := by
            rw [take_snoc hd, kinds_append]
            congr 1
            by_cases hk : d.kind = 2 <;> simp [kinds, hk]
          have HKT := hide hkt
          have hem : em c d = ((tn : Int), d.deadline - tk.due) := by simp only [em]; rw [hdue, htn]
          have HEM := hide hem
          rw [hem] at hle hfit
          rw [htn] at p3 hfit
          simp only at hle hfit
          rw [hdue] at hdin
          have u1 := din.a0
          have u2 := din.a1
          have u3 := din.d0
          have u4 := din.d1
          have HFT := hide hfit
          clear a0 a1 a2 a3 a4 hd hbc hbVw t0 t1 hdue htk din hkt hem hfit
          generalize hd0 : d.kind = d0 at *
          generalize d.tick = d1 at *
          generalize d.job = d2 at *
          generalize d.deadline = d4 at *
          have HBDU : Hid (whatI c = 1 → boundOf c (tn : Int) ≤ tk.due) := fun hw => by rw [← HDUE.out]; exact bound_due hw (by omega) (by have := HN.out; omega)
          generalize boundOf c (tn : Int) = bd at *
          generalize tk.due = du at *
          have hq1 : Below wr.heap.size wr (wr.alloc (.cells #[.int .i64 d0, .int .i64 d1, .int .i64 d2, .int .i64 tn, .int .i64 d4] 53)) := (Below.refl _ _).alloc (Nat.le_refl _) _
          have HQ1 := hide hq1
          have HD1 := hide (Blk.new wr #[.int .i64 d0, .int .i64 d1, .int .i64 d2, .int .i64 tn, .int .i64 d4] 53)
          have HSZ : Hid ((wr.alloc (.cells #[.int .i64 d0, .int .i64 d1, .int .i64 d2, .int .i64 tn, .int .i64 d4] 53)).heap.size = wr.heap.size + 1) := by rw [Hid]; simp
          clear hq1
          have HBD : Hid (whatI c = 1 → bd ≤ du) := HBDU.out
          go_upto_region 26 with (fail)
          generalize (wr.alloc (.cells #[.int .i64 d0, .int .i64 d1, .int .i64 d2, .int .i64 tn, .int .i64 d4] 53)) = WD at *
          have HCE : Hid (∀ w', Below WD.heap.size WD w' → (w'.cell? ⟨wr.heap.size, 0, none⟩ = some (.int .i64 d0) ∧ w'.cell? ⟨wr.heap.size, 1, none⟩ = some (.int .i64 d1) ∧ w'.cell? ⟨wr.heap.size, 3, none⟩ = some (.int .i64 tn) ∧ w'.cell? ⟨wr.heap.size, 4, none⟩ = some (.int .i64 d4) ∧ wr.heap.size < w'.heap.size) ∧ (w'.cell? ⟨H, 8, none⟩ = some (.slice va sn vc) ∧ H < w'.heap.size) ∧ (w'.cell? ⟨w1.heap.size, 5, none⟩ = some (.slice (some ⟨sb, so, none⟩) n scap) ∧ w1.heap.size < w'.heap.size) ∧ (w'.cell? ⟨w2.heap.size, 1, none⟩ = some (.slice (some ⟨bg, 0, none⟩) n n) ∧ w2.heap.size < w'.heap.size) ∧ (w'.cell? ⟨sb, so + tn * 3 + 1, none⟩ = some (.int .i64 du) ∧ sb < w'.heap.size) ∧ (w'.cell? ⟨bg, tn, none⟩ = some (.int .i64 bd) ∧ bg < w'.heap.size) ∧ Blk w' wa.heap.size (ws.map Value.bool).toArray 4) := fun w' hb' => by
            have hk := HD1.out.later hb' (by have := HSZ.out; omega)
            have hs := hb'.size
            have hz := HSZ.out
            have hq := HQ1.out.trans (hb'.mono (by omega))
            exact ⟨⟨hk.cell 0, hk.cell 1, hk.cell 3, hk.cell 4, hk.lt⟩, ⟨(hq.cell (p := ⟨H, 8, none⟩) hHr).trans z8, by omega⟩, ⟨(hq.cell (p := ⟨w1.heap.size, 5, none⟩) hw1r).trans z5, by omega⟩, ⟨(hq.cell (p := ⟨w2.heap.size, 1, none⟩) hw2r).trans zr, by omega⟩, ⟨(hq.cell (p := ⟨sb, so + tn * 3 + 1, none⟩) hsbr).trans t5, by omega⟩, ⟨(hq.cell (p := ⟨bg, tn, none⟩) hbgr).trans t6, by omega⟩, HBK.out.later hq HBK.out.lt⟩
          obtain ⟨⟨q0, q1, q3, q4, ql⟩, ⟨q8, qh⟩, ⟨q5, qw⟩, ⟨qr, qw2⟩, ⟨qs, qsb⟩, ⟨qb, qbg⟩, -⟩ := HCE.out WD (Below.refl _ _)
          clear p0 p1 p2 p3 p4 t5 t6 z8 z9 z5 zr
          have hwat : IntKind.i64.wrap (d4 - du) = d4 - du := IntWalk.i64_in _ ⟨by omega, by omega⟩
          go_quiet ((fail))
          obtain ⟨⟨x0, x1, x3, x4, xl⟩, ⟨x8, xh⟩, ⟨x5, xw⟩, ⟨xr, xw2⟩, ⟨xs, xsb⟩, ⟨xb, xbg⟩, -⟩ := HCE.out (WD.drewN nq) (below_drewN (Below.refl _ _) nq)
          have HBE : Hid (Below WD.heap.size WD (WD.drewN nq)) := below_drewN (Below.refl _ _) nq
          clear q0 q1 q3 q4 ql q8 qh q5 qw qr qw2 qs qsb qb qbg
          generalize WD.drewN nq = WE at *
          have hua : -400 ≤ d4 - du ∧ d4 - du ≤ 1400 := by omega
          generalize d4 - du = at_ at *
          go_upto_region 27 with (fail)
          have hc1 : decide (d1 < at_) = false := decide_eq_false (by omega)
          go_cut [217] (fun v wx => v = .bool false ∧ Below WD.heap.size WD wx)
          case first => as_aux_lemma =>
            cases F
            · go_quiet ((fail))
              go_wp2_with fail
              go_meet
              case rel => exact ⟨rfl, below_drewN HBE.out _⟩
            · by_cases hk2 : d0 = 2
              · obtain ⟨e1, e2⟩ := HFT.out (HFW.out rfl) hk2
                have hbd := HBD.out (HFW.out rfl)
                have hwab : IntKind.i64.wrap (at_ + bd) = at_ + bd := IntWalk.i64_in _ ⟨by omega, by omega⟩
                have hc2 : decide (at_ + bd < d1) = false := decide_eq_false (by omega)
                have hc3 : decide (d4 < d1) = false := decide_eq_false (by omega)
                subst hk2
                go_quiet ((fail))
                go_wp2_with fail
                go_meet
                case rel => exact ⟨rfl, below_drewN HBE.out _⟩
              · have hk2b : (d0 == 2) = false := by simp [hk2]
                go_quiet ((fail))
                go_wp2_with fail
                go_meet
                case rel => exact ⟨rfl, below_drewN HBE.out _⟩
          case rest => as_aux_lemma =>
            obtain ⟨rfl, hb27⟩ := hcut
            have HB27 := hide hb27
            obtain ⟨⟨x0, x1, x3, x4, xl⟩, ⟨x8, xh⟩, -, -, -, -, xk⟩ := HCE.out _ hb27
            have HXK := hide xk
            clear hb27 xk
            by_cases hk2 : d0 = 2
            · subst hk2
              have HFREE : Hid (∃ k' : Nat, h.sent[k']? = some ((tn : Int), at_) ∧ ws[k']? = some false) := by
                refine met_free _ _ _ (by rw [HWL.out, HSN.out]) ?_
                have h1 := HF9.out ((tn : Int), at_)
                have h2 : ((kinds 2 h.done).map (em c)).count ((tn : Int), at_) = ((kinds 2 (h.done.take (i + 1))).map (em c)).count ((tn : Int), at_) + ((kinds 2 (h.done.drop (i + 1))).map (em c)).count ((tn : Int), at_) := by
                  rw [← List.count_append, ← List.map_append, ← kinds_append, List.take_append_drop]
                have h3 := HMT.out ((tn : Int), at_)
                rw [HKT.out, if_pos rfl, List.map_append, List.count_append, List.map_cons, List.map_nil, HEM.out, List.count_singleton_self] at h2
                omega
              go_wp2_with fail
              go_loopg [25, 26] sn (fun g tv kv wx => ∃ k : Nat, kv = .int .i64 k ∧ g = sn - k ∧ k ≤ sn ∧ ((tv = .bool false ∧ Below WD.heap.size WD wx ∧ ∀ j : Nat, j < k → h.sent[j]? = some ((tn : Int), at_) → ws[j]? ≠ some false) ∨ (tv = .bool true ∧ ∃ k' : Nat, h.sent[k']? = some ((tn : Int), at_) ∧ ws[k']? = some false ∧ Blk wx wa.heap.size ((ws.set k' true).map Value.bool).toArray 4 ∧ Below wa.heap.size wa wx)))
              case atStart => exact ⟨0, rfl, by omega, Nat.zero_le _, Or.inl ⟨rfl, HB27.out, fun j hj => absurd hj (by omega)⟩⟩
              case round => as_aux_lemma =>
                obtain ⟨k, rfl, hgk, hkl, hor⟩ := hrel
                have HGK := hide hgk
                clear hgk x0 x1 x3 x4 x8 xl xh
                rcases hor with ⟨rfl, hbx, hno⟩ | ⟨rfl, k', e1, e2, e3, e4⟩
                · obtain ⟨⟨x0, x1, x3, x4, xl⟩, ⟨x8, xh⟩, -, -, -, -, xk⟩ := HCE.out wr hbx
                  have HBX := hide hbx
                  have HNO := hide hno
                  have HBK2 := hide xk
                  clear hbx hno xk
                  by_cases hks : k < sn
                  · have hki : (k : Int) < (sn : Int) := by omega
                    obtain ⟨s, hs⟩ := get_of_lt (l := h.sent) (k := k) (by rw [HSN.out]; exact hks)
                    obtain ⟨b, hb⟩ := get_of_lt (l := ws) (k := k) (by rw [HWL.out]; exact hks)
                    obtain ⟨sg, sc, hv2, hsg, -, a0, a1⟩ := HSP7.out.at hs
                    simp only [Value.slice.injEq] at hv2
                    obtain ⟨rfl, -, rfl⟩ := hv2
                    have hbW : Below W7.heap.size W7 wr := (HBC.out.trans (HQ1.out.mono (by have := HBC.out.size; omega))).trans (HBX.out.mono (by have := HBC.out.size; have := HSZ.out; omega))
                    have m0 := (hbW.cell (p := ⟨sg, k * 2, none⟩) hsg).trans a0
                    have m1 := (hbW.cell (p := ⟨sg, k * 2 + 1, none⟩) hsg).trans a1
                    have hsr : sg < wr.heap.size := by have := hbW.size; omega
                    have mb : wr.cell? ⟨wa.heap.size, k, none⟩ = some (.bool b) := by rw [HBK2.out.cell k]; simp [hb]
                    have hbl := HBK2.out.lt
                    have HS := hide hs
                    have HBB := hide hb
                    have HBWW := hide hbW
                    obtain ⟨s1, s2⟩ := s
                    simp only at m0 m1
                    clear hs hb hbW a0 a1
                    cases b
                    · by_cases hs1 : s1 = (tn : Int)
                      · subst hs1
                        by_cases hs2 : s2 = at_
                        · subst hs2
                          have HW1 : Hid (Below wa.heap.size wa wr) := (HB.out.trans (HQ1.out.mono hzr)).trans (HBX.out.mono (by have := HSZ.out; omega))
                          go_upto_region 34 with (fail)
                          go_quiet ((fail))
                          have HBK3 := hide (HBK2.out.later (below_drewN (Below.refl _ _) nq) HBK2.out.lt)
                          have mf := HBK3.out.free k
                          have HW3 : Hid (Below wa.heap.size wa (wr.drewN nq)) := below_drewN HW1.out nq
                          go_wp2_with fail
                          go_roundg (sn - (k + 1))
                          case measure => have := HGK.out; omega
                          case rel => exact ⟨k + 1, by go_num, rfl, by omega, Or.inr ⟨rfl, k, HS.out, HBB.out, by rw [← setB]; exact HBK3.out.set k _, HW3.out.setCell (Nat.le_refl _) _⟩⟩
                        · have hs2b : (s2 == at_) = false := by simp [hs2]
                          go_upto_region 34 with (fail)
                          go_quiet ((fail))
                          go_wp2_with fail
                          go_roundg (sn - (k + 1))
                          case measure => have := HGK.out; omega
                          case rel => exact ⟨k + 1, by go_num, rfl, by omega, Or.inl ⟨rfl, below_drewN HBX.out _, fun j hj hjs => by
                            by_cases hjk : j = k
                            · subst hjk; rw [HS.out] at hjs; simp at hjs; exact absurd hjs hs2
                            · exact HNO.out j (by omega) hjs⟩⟩
                      · have hs1b : (s1 == (tn : Int)) = false := by simp [hs1]
                        go_upto_region 34 with (fail)
                        go_quiet ((fail))
                        go_wp2_with fail
                        go_roundg (sn - (k + 1))
                        case measure => have := HGK.out; omega
                        case rel => exact ⟨k + 1, by go_num, rfl, by omega, Or.inl ⟨rfl, below_drewN HBX.out _, fun j hj hjs => by
                          by_cases hjk : j = k
                          · subst hjk; rw [HS.out] at hjs; simp at hjs; exact absurd hjs.1 hs1
                          · exact HNO.out j (by omega) hjs⟩⟩
                    · go_upto_region 34 with (fail)
                      go_quiet ((fail))
                      go_wp2_with fail
                      go_roundg (sn - (k + 1))
                      case measure => have := HGK.out; omega
                      case rel => exact ⟨k + 1, by go_num, rfl, by omega, Or.inl ⟨rfl, below_drewN HBX.out _, fun j hj hjs => by
                        by_cases hjk : j = k
                        · subst hjk; rw [HBB.out]; simp
                        · exact HNO.out j (by omega) hjs⟩⟩
                  · exfalso
                    obtain ⟨k', e1, e2⟩ := HFREE.out
                    have hk' := lt_of_get e1
                    rw [HSN.out] at hk'
                    exact HNO.out k' (by omega) e1 e2
                · have HE := hide (And.intro e1 (And.intro e2 (And.intro e3 e4)))
                  have hbW : Below W7.heap.size W7 wr := HB8.out.trans (e4.mono hz8)
                  obtain ⟨xh, x8, -⟩ := HALL.out wr hbW
                  clear e1 e2 e3 e4 hbW
                  by_cases hks : k < sn
                  · have hki : (k : Int) < (sn : Int) := by omega
                    go_wp2_with fail
                    go_roundg (dn - (i + 1))
                    case measure => have := HG.out; omega
                    case rel => exact ⟨i + 1, ws.set k' true, by go_num, rfl, by omega, by rw [List.length_set]; exact HWL.out, HE.out.2.2.1, fun v => by
                      rw [met_set _ _ _ _ v HE.out.1 HE.out.2.1, HKT.out, if_pos trivial, List.map_append, List.count_append, HMT.out v, List.map_cons, List.map_nil, HEM.out], HE.out.2.2.2⟩
                  · have hki : ¬ (k : Int) < (sn : Int) := by omega
                    go_wp2_with fail
                    go_roundg (dn - (i + 1))
                    case measure => have := HG.out; omega
                    case rel => exact ⟨i + 1, ws.set k' true, by go_num, rfl, by omega, by rw [List.length_set]; exact HWL.out, HE.out.2.2.1, fun v => by
                      rw [met_set _ _ _ _ v HE.out.1 HE.out.2.1, HKT.out, if_pos trivial, List.map_append, List.count_append, HMT.out v, List.map_cons, List.map_nil, HEM.out], HE.out.2.2.2⟩
            · have hk2b : (d0 == 2) = false := by simp [hk2]
              go_wp2_with fail
              go_roundg (dn - (i + 1))
              case measure => have := HG.out; omega
              case rel => exact ⟨i + 1, ws, by go_num, rfl, by omega, HWL.out, HXK.out, fun v => by rw [HKT.out, if_neg hk2, List.append_nil]; exact HMT.out v, (HB.out.trans (HQ1.out.mono hzr)).trans (HB27.out.mono (by have := HSZ.out; omega))⟩
        · have hii : ¬ (i : Int) < (dn : Int) := by omega
          go_wp2_with fail
          go_ret
          exact ⟨rfl, HBW.out _ (HBV7.out.trans (HBC.out.mono HBV7.out.size))⟩

end Go.Proofs.Ythloffgebebijaa
