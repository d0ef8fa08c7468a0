/- RexD: the walk of the reference's read: one line. -/
import Derived.Test.YthloffgebebijaaGreatRexK
namespace Go.Proofs.YthloffgebebijaaGreat
open Go.RowKit

set_option maxRecDepth 100000 in
set_option maxHeartbeats 6400000 in
theorem rRead_any (S T : Nat → Prop) (base Y L k : Nat) (_N t : Int) (x : Exs) (tv jv : Value) (lvs : List Value) (l : List Fd) (w : World)
    (h : RecP w S T base Y L x tv jv lvs) (hS : ∀ q, S q → q < w.heap.size) (hbase : base ≤ w.heap.size) (hl : x.lines[k]? = some l) (hlen : l.length ≤ 32) (hfd : ∀ f ∈ l, FdIn f) (hrd : RdB x.cfg 40 ⟨x.jobs, x.ct, []⟩) (hok : cfgOk x.cfg = true) (_ht0 : 0 ≤ t) (_ht1 : t ≤ 4000) :
    Calls Tryz.prog 90 #[.pointer (some ⟨Y, 0, none⟩), .int .i64 k, .int .i64 t] w fun e w' => ∃ ev, e = .returned ev ∧ EvP w' w.heap.size ev (exLine x.cfg t l ⟨x.jobs, x.ct, []⟩).2.out ∧ (∃ S' jv' lvs', RecP w' S' T base Y L { x with lines := x.lines.set k (exLine x.cfg t l ⟨x.jobs, x.ct, []⟩).1, jobs := (exLine x.cfg t l ⟨x.jobs, x.ct, []⟩).2.jobs, ct := (exLine x.cfg t l ⟨x.jobs, x.ct, []⟩).2.ct } tv jv' lvs' ∧ (∀ q, S' q → (S q ∨ w.heap.size ≤ q) ∧ q < w'.heap.size) ∧ (∀ q, ev.ownBlock = some q → ¬ S' q)) ∧ Fr S w w' := by
  have hkl := lt_of_get hl
  obtain ⟨v, hv⟩ := get_of_lt (l := lvs) (k := k) (by rw [h.len]; exact hkl)
  have hrow := h.row k v l hv hl
  have hll : lvs.length = x.lines.length := h.len
  obtain ⟨va, vc, hve⟩ := ownsRow_slice hrow
  have hYl := h.blk.lt
  have hLl := h.lns.lt
  have h6 : w.cell? ⟨Y, 6, none⟩ = some (.slice (some ⟨L, 0, none⟩) lvs.length lvs.length) := h.blk.cell 6
  have h7 : w.cell? ⟨L, k, none⟩ = some v := (h.lns.cell k).trans (by simp [hv])
  subst hve
  have hki : (k : Int) < (lvs.length : Int) := by omega
  have hk0 : (0 : Int) ≤ (k : Int) := by omega
  have HR := hide h
  have HROW := hide hrow
  have HV := hide hv
  have HL := hide hl
  have HFD := hide hfd
  have HRD := hide hrd
  have HOK := hide hok
  generalize hnl : lvs.length = nl at *
  have HNL := hide hnl
  generalize hn : l.length = n at *
  have HN := hide hn
  have HEX : Hid (exLine x.cfg t l ⟨x.jobs, x.ct, []⟩ = ((exRead x.cfg t n (l.filter fun f => decide (f.tick ≤ t)) ⟨x.jobs, x.ct, []⟩).1 ++ l.filter (fun f => !decide (f.tick ≤ t)), (exRead x.cfg t n (l.filter fun f => decide (f.tick ≤ t)) ⟨x.jobs, x.ct, []⟩).2)) := by
    rw [Hid, ← HN.out]
    rfl
  generalize exLine x.cfg t l ⟨x.jobs, x.ct, []⟩ = EX at *
  have HT : Hid (∀ q, T q → q < w.heap.size) := fun q e => (HR.out.tl q e).1
  have HSS := hide hS
  have HDUE : Hid (∀ t ∈ x.cfg.tasks, 1 ≤ t.due ∧ t.due ≤ 400) := fun t ht => by
    have h1 := HOK.out
    simp only [cfgOk, tasksOk, Bool.and_eq_true, decide_eq_true_eq, List.all_eq_true] at h1
    have := h1.2.2.2.2.2.2 t ht
    simp only [taskOk, Bool.and_eq_true, decide_eq_true_eq] at this
    exact this.2.1
  have HT6 : Hid (x.cfg.tasks.length ≤ 6) := by
    have h1 := HOK.out
    simp only [cfgOk, tasksOk, Bool.and_eq_true, decide_eq_true_eq, List.all_eq_true] at h1
    exact h1.2.2.2.2.2.1.2
  clear h hrow hv hl hfd hrd hok hll hnl hn hS
  go_enter Tryz.func90, Tryz.ntmps90
  go_wp2_with fail
  go_loopg [8, 9, 10] n (fun g lv av iv wr => ∃ i : Nat, iv = .int .i64 i ∧ g = n - i ∧ i ≤ n ∧ RFedP wr w.heap.size lv ((l.take i).filter fun f => decide (f.tick ≤ t)) ∧ RFedP wr w.heap.size av ((l.take i).filter fun f => !decide (f.tick ≤ t)) ∧ (∀ q, lv.ownBlock = some q → av.ownBlock ≠ some q) ∧ Below w.heap.size w wr)
  case atStart => exact ⟨0, rfl, by omega, Nat.zero_le _, World.ownsRow_nil _ _ _ _, World.ownsRow_nil _ _ _ _, fun q e => by simp [Value.ownBlock] at e, Below.refl _ _⟩
  case round =>
    obtain ⟨i, rfl, hg, hil, hlp, hap, hne, hb⟩ := hrel
    have HG := hide hg
    have HLP := hide hlp
    have HAP := hide hap
    have HNE := hide hne
    have HB := hide hb
    have hz := hb.size
    have y6 : wr.cell? ⟨Y, 6, none⟩ = some (.slice (some ⟨L, 0, none⟩) nl nl) := (hb.cell (p := ⟨Y, 6, none⟩) hYl).trans h6
    have y7 : wr.cell? ⟨L, k, none⟩ = some (.slice va n vc) := (hb.cell (p := ⟨L, k, none⟩) hLl).trans h7
    have hYr : Y < wr.heap.size := by omega
    have hLr : L < wr.heap.size := by omega
    have hlf : ((l.take i).filter fun f => decide (f.tick ≤ t)).length ≤ 32 := Nat.le_trans (List.length_filter_le _ _) (by rw [List.length_take, HN.out]; omega)
    have haf : ((l.take i).filter fun f => !decide (f.tick ≤ t)).length ≤ 32 := Nat.le_trans (List.length_filter_le _ _) (by rw [List.length_take, HN.out]; omega)
    clear hg hlp hap hne hb
    by_cases hlt : i < n
    · have hii : (i : Int) < (n : Int) := by omega
      obtain ⟨f, hf⟩ := get_of_lt (l := l) (k := i) (by rw [HN.out]; exact hlt)
      obtain ⟨fg, fc, hfv, hfl, -, a0, a1⟩ := HROW.out.at hf
      rw [HN.out] at hfv
      simp only [Value.slice.injEq, true_and] at hfv
      obtain ⟨rfl, rfl⟩ := hfv
      have m0 := (HB.out.cell (p := ⟨fg, i * 2, none⟩) hfl).trans a0
      have m1 := (HB.out.cell (p := ⟨fg, i * 2 + 1, none⟩) hfl).trans a1
      have hfr : fg < wr.heap.size := by omega
      have htk : l.take (i + 1) = l.take i ++ [f] := take_snoc hf
      have hft := (HFD.out f (List.mem_of_getElem? hf))
      have hft0 := hft.t0
      have hft1 := hft.t1
      obtain ⟨lla, llc, hlv⟩ := ownsRow_slice HLP.out
      obtain ⟨ala, alc, hav⟩ := ownsRow_slice HAP.out
      have hq0 : Below wr.heap.size wr ((wr.alloc (.cells #[.int .u8 f.b, .int .i64 f.tick] 146)).alloc (.cells #[.int .u8 f.b, .int .i64 f.tick] 146)) := ((Below.refl _ _).alloc (Nat.le_refl _) _).alloc (by simp) _
      have HQ0 := hide hq0
      have HWN : Hid (Win ((wr.alloc (.cells #[.int .u8 f.b, .int .i64 f.tick] 146)).alloc (.cells #[.int .u8 f.b, .int .i64 f.tick] 146)) w.heap.size 146 2 (.slice (some ⟨wr.heap.size + 1, 0, none⟩) 1 1) 1 [.int .u8 f.b, .int .i64 f.tick]) := by
        have := win_new (wr.alloc (.cells #[.int .u8 f.b, .int .i64 f.tick] 146)) w.heap.size 146 2 1 [.int .u8 f.b, .int .i64 f.tick] rfl (by unfold maxLen; omega) (by simp; omega)
        simpa [Hid] using this
      have HONE : Hid (∀ u ∈ [Value.int .u8 f.b, Value.int .i64 f.tick], u.oneCell' = true) := by
        intro u hu
        simp at hu
        rcases hu with rfl | rfl <;> rfl
      have HL2 : Hid (RFedP ((wr.alloc (.cells #[.int .u8 f.b, .int .i64 f.tick] 146)).alloc (.cells #[.int .u8 f.b, .int .i64 f.tick] 146)) w.heap.size _ _) := ownsRow_same HLP.out fun q e => hq0.block q (ownsRow_lt HLP.out e).2
      have HA2 : Hid (RFedP ((wr.alloc (.cells #[.int .u8 f.b, .int .i64 f.tick] 146)).alloc (.cells #[.int .u8 f.b, .int .i64 f.tick] 146)) w.heap.size _ _) := ownsRow_same HAP.out fun q e => hq0.block q (ownsRow_lt HAP.out e).2
      have hzq : ((wr.alloc (.cells #[.int .u8 f.b, .int .i64 f.tick] 146)).alloc (.cells #[.int .u8 f.b, .int .i64 f.tick] 146)).heap.size = wr.heap.size + 1 + 1 := by simp
      have HZQ := hide hzq
      have HLL : Hid (∀ q, Value.ownBlock (.slice lla ((l.take i).filter fun f => decide (f.tick ≤ t)).length llc) = some q → w.heap.size ≤ q ∧ q < wr.heap.size) := fun q e => by rw [← hlv] at e; exact ownsRow_lt HLP.out e
      have HAL : Hid (∀ q, Value.ownBlock (.slice ala ((l.take i).filter fun f => !decide (f.tick ≤ t)).length alc) = some q → w.heap.size ≤ q ∧ q < wr.heap.size) := fun q e => by rw [← hav] at e; exact ownsRow_lt HAP.out e
      subst hlv
      subst hav
      have HTK := hide htk
      clear a0 a1 hf hft hq0 hzq htk
      generalize hFL : (l.take i).filter (fun f => decide (f.tick ≤ t)) = FL at *
      generalize hFA : (l.take i).filter (fun f => !decide (f.tick ≤ t)) = FA at *
      have HFL := hide hFL
      have HFA := hide hFA
      clear hFL hFA
      by_cases hle : f.tick ≤ t
      · have HFL2 : Hid ((l.take (i + 1)).filter (fun f => decide (f.tick ≤ t)) = FL ++ [f]) := by rw [Hid, HTK.out, List.filter_append, HFL.out]; simp [hle]
        have HFA2 : Hid ((l.take (i + 1)).filter (fun f => !decide (f.tick ≤ t)) = FA) := by rw [Hid, HTK.out, List.filter_append, HFA.out]; simp [hle]
        go_wp2_with (at_builtin; go_must (refine wpList_appWin rfl _ _ 143 146 (.agg #[.int .u8 0, .int .i64 0]) 2 16 rfl Tryz.underlying143 info_rfed rfl (by decide) (by decide) w.heap.size w.heap.size (.slice lla FL.length llc) (.slice (some ⟨wr.heap.size + 1, 0, none⟩) 1 1) FL.length 1 _ _ rfl HL2.out rfl HWN.out HONE.out (by omega) (by rw [HZQ.out]; omega) ?_))
        intro v5 w5 e5 g5 o5
        obtain ⟨l5, c5, hv5⟩ := ownsRow_slice e5
        have HTWO := hide (two_rows HLP.out HAP.out HNE.out HB.out HQ0.out g5 e5 (by rw [HZQ.out]; exact o5))
        subst hv5
        clear e5 g5 o5
        go_wp2_with fail
        go_roundg (n - (i + 1))
        case measure => have := HG.out; omega
        case rel => exact ⟨i + 1, by go_num, rfl, by omega, by rw [HFL2.out]; exact HTWO.out.1, by rw [HFA2.out]; exact HTWO.out.2.1, HTWO.out.2.2.1, HTWO.out.2.2.2⟩
      · have HFL2 : Hid ((l.take (i + 1)).filter (fun f => decide (f.tick ≤ t)) = FL) := by rw [Hid, HTK.out, List.filter_append, HFL.out]; simp [hle]
        have HFA2 : Hid ((l.take (i + 1)).filter (fun f => !decide (f.tick ≤ t)) = FA ++ [f]) := by rw [Hid, HTK.out, List.filter_append, HFA.out]; simp [hle]
        go_wp2_with (at_builtin; go_must (refine wpList_appWin rfl _ _ 143 146 (.agg #[.int .u8 0, .int .i64 0]) 2 16 rfl Tryz.underlying143 info_rfed rfl (by decide) (by decide) w.heap.size w.heap.size (.slice ala FA.length alc) (.slice (some ⟨wr.heap.size + 1, 0, none⟩) 1 1) FA.length 1 _ _ rfl HA2.out rfl HWN.out HONE.out (by omega) (by rw [HZQ.out]; omega) ?_))
        intro v5 w5 e5 g5 o5
        obtain ⟨l5, c5, hv5⟩ := ownsRow_slice e5
        have HTWO := hide (two_rows HAP.out HLP.out (fun q e e' => HNE.out q e' e) HB.out HQ0.out g5 e5 (by rw [HZQ.out]; exact o5))
        subst hv5
        clear e5 g5 o5
        go_wp2_with fail
        go_roundg (n - (i + 1))
        case measure => have := HG.out; omega
        case rel => exact ⟨i + 1, by go_num, rfl, by omega, by rw [HFL2.out]; exact HTWO.out.2.1, by rw [HFA2.out]; exact HTWO.out.1, fun q e e' => HTWO.out.2.2.1 q e' e, HTWO.out.2.2.2⟩
    · have hii : ¬ (i : Int) < (n : Int) := by omega
      rw [List.take_of_length_le (by rw [HN.out]; omega)] at HLP HAP hlf haf
      have HIN : Hid (∀ f ∈ l.filter (fun f => decide (f.tick ≤ t)), FdIn f) := fun f hf => HFD.out f (List.mem_filter.1 hf).1
      have hFn : (l.filter (fun f => decide (f.tick ≤ t))).length ≤ n := by rw [← HN.out]; exact List.length_filter_le _ _
      generalize l.filter (fun f => decide (f.tick ≤ t)) = FL at *
      generalize l.filter (fun f => !decide (f.tick ≤ t)) = FA at *
      obtain ⟨lla, llc, hlv⟩ := ownsRow_slice HLP.out
      obtain ⟨ala, alc, hav⟩ := ownsRow_slice HAP.out
      subst hlv
      subst hav
      have HP : Hid (Rd2 w wr S T base Y L x tv lvs (.slice ala FA.length alc) FA (.slice none 0 0) (.slice lla FL.length llc) jv FL ⟨x.jobs, x.ct, []⟩) := ⟨World.ownsRow_nil _ _ _ _, ownsRow_win HLP.out, (HR.out.below HSS.out HB.out).mono (fun q _ e => .inl e) (fun q e => by
        rintro (e' | e')
        · exact (HR.out.tl q e).2 e'
        · exact (HR.out.tl q e).2 (HR.out.sj q e')), HAP.out, Fr.of_below HB.out⟩
      have HSY := hide HR.out.sy
      have HSJ : Hid (∀ q, jv.ownBlock = some q → S q) := HR.out.sj
      generalize hE : exRead x.cfg t n FL ⟨x.jobs, x.ct, []⟩ = E at *
      have HE := hide hE
      obtain ⟨W1, hW1⟩ : ∃ W, W = wr := ⟨_, rfl⟩
      subst hW1
      clear hE HLP HAP HNE
      go_upto_block 2 with (fail)
      clear y6 y7 hYr hLr
      go_cut [7, 8] (fun ov lv wx => ∃ (jv' : Value) (ls : List Fd) (r : Rdg), E = (ls, r) ∧ Rd2 w wx S T base Y L x tv lvs (.slice ala FA.length alc) FA ov lv jv' ls r ∧ (∀ q, jv'.ownBlock = some q → q < w.heap.size → S q) ∧ ls.length ≤ 32 ∧ r.out.length ≤ 1000)
      case first =>
        go_wp2_with fail
        go_loopg [7, 8] FL.length (fun g ov lv wx => ∃ (f : Nat) (jv' : Value) (ls : List Fd) (r : Rdg), g = ls.length ∧ ls.length ≤ f ∧ ls.length ≤ 32 ∧ exRead x.cfg t f ls r = E ∧ Rd2 w wx S T base Y L x tv lvs (.slice ala FA.length alc) FA ov lv jv' ls r ∧ (∀ q, jv'.ownBlock = some q → q < w.heap.size → S q) ∧ RdB x.cfg ls.length r ∧ ∀ f ∈ ls, FdIn f)
        case atStart => exact ⟨n, jv, FL, _, rfl, hFn, hlf, HE.out, HP.out, fun q e _ => HSJ.out q e, by
          obtain ⟨d1, d2, d3, d4, d5, d6, d7, d8, d9, d10⟩ := HRD.out
          exact ⟨d1, d2, by omega, d4, by omega, d6, by omega, d8, by omega, by omega⟩, HIN.out⟩
        case round =>
          obtain ⟨f, jv', ls, r, hg, hf, hl32, hrr, hp, hj, hrb, hin⟩ := hrel
          have HG := hide hg
          have HRR := hide hrr
          have HP2 := hide hp
          have HJ := hide hj
          have HRB := hide hrb
          have HIN2 := hide hin
          have hYr := hp.rc.blk.lt
          obtain ⟨oa, oc, hov⟩ := ownsRow_slice hp.ev
          subst hov
          rcases hp.wi with ⟨rfl, h0, _⟩ | ⟨g, o, cap, cur, rfl, w2, w3, w4, w5, w6, w7⟩
          · have hls : ls = [] := List.length_eq_zero_iff.1 h0
            subst hls
            clear hg hrr hp hj hrb hin
            go_wp2_with fail
            go_meet
            case rel => exact ⟨jv', [], r, by rw [← HRR.out, exRead_nil], HP2.out, HJ.out, by simp, by have := HRB.out.ou; omega⟩
          · clear w6 w7
            by_cases hc : ls = []
            · subst hc
              clear hg hrr hp hj hrb hin w5
              go_wp2_with fail
              go_meet
              case rel => exact ⟨jv', [], r, by rw [← HRR.out, exRead_nil], HP2.out, HJ.out, by simp, by have := HRB.out.ou; omega⟩
            · have hpos : 0 < ls.length := List.length_pos_iff.2 hc
              have hne : ls ≠ [] := hc
              clear hc
              have HM := hide (rMessage_any Y wr.heap.size tv _ x.cfg ls wr (hp.rc.blk.cell 5) (hp.rc.ts.tasks fun q e => (hp.rc.tl q e).1) hp.wi.feds hYr (Nat.le_refl _) hne hin HDUE.out HT6.out (by omega))
              obtain ⟨f', rfl⟩ : ∃ f', f = f' + 1 := ⟨f - 1, by omega⟩
              have HSTEP : Hid (exRead x.cfg t (f' + 1) ls r = match exMsg x.cfg.tasks.length ls with
                | none => (ls, r)
                | some none => exRead x.cfg t f' (ls.drop 1) { r with ct := { r.ct with bad := r.ct.bad + 1 } }
                | some (some none) => exRead x.cfg t f' (ls.drop 4) { r with ct := { r.ct with unknown := r.ct.unknown + 1 } }
                | some (some (some (k, cost, tick))) =>
                  if (r.jobs.length : Int) = x.cfg.room then exRead x.cfg t f' (ls.drop 4) { r with ct := { r.ct with lost := r.ct.lost + 1 }, out := r.out ++ [⟨3, t, -1, k, tick + ((x.cfg.tasks.map Tk.due).getD k.toNat 0)⟩] }
                  else exRead x.cfg t f' (ls.drop 4) { r with jobs := r.jobs ++ [⟨r.ct.jobs, k, tick + ((x.cfg.tasks.map Tk.due).getD k.toNat 0), cost⟩], ct := { r.ct with jobs := r.ct.jobs + 1 } }) := rfl
              have HLONG := hide (fun h => exMsg_long (n := x.cfg.tasks.length) (l := ls) h)
              have HTSK := hide (fun k c t' h => exMsg_task (n := x.cfg.tasks.length) (l := ls) (k := k) (c := c) (t := t') h hin)
              clear hg hrr hp hj hrb hin w5 hne
              have hposi : (0 : Int) < (ls.length : Int) := by omega
              generalize hln : ls.length = m at *
              have HLN := hide hln
              clear hln
              rcases hm : exMsg x.cfg.tasks.length ls with _ | _ | _ | ⟨kk, cost, tick⟩
              ·
                rw [hm] at HM HSTEP
                simp only [msgJ, msgK] at HM HSTEP
                clear hm
                go_wp2_with fail
                refine HM.out.mono ?_
                rintro e w9 ⟨rfl, b9⟩
                have HP9 := hide ((HP2.out.below HSS.out b9).below HSS.out ((Below.refl _ _).alloc (Nat.le_refl _) (.cells #[.int .i64 0, .int .i64 0, .int .i64 0, .int .i64 0] 169)))
                clear b9
                go_wp2_with fail
                go_meet
                case rel => exact ⟨jv', ls, r, by rw [← HRR.out, HSTEP.out], HP9.out, HJ.out, by have := HLN.out; omega, by have := HRB.out.ou; omega⟩
              ·
                rw [hm] at HM HSTEP
                simp only [msgJ, msgK] at HM HSTEP
                clear hm
                go_wp2_with fail
                refine HM.out.mono ?_
                rintro e w9 ⟨rfl, b9⟩
                have HP9 := hide ((HP2.out.below HSS.out b9).below HSS.out ((Below.refl _ _).alloc (Nat.le_refl _) (.cells #[.int .i64 0, .int .i64 0, .int .i64 0, .int .i64 0] 169)))
                clear b9
                have hY9 := HP9.out.rc.blk.lt
                have k16 : (w9.alloc (.cells #[.int .i64 0, .int .i64 0, .int .i64 0, .int .i64 0] 169)).cell? ⟨Y, 16, none⟩ = some (.int .i64 r.ct.bad) := HP9.out.rc.blk.cell 16
                have k16f := HP9.out.rc.blk.free 16
                have hb0 := HRB.out.b0
                have hb1 := HRB.out.b1
                have hwr : IntKind.i64.wrap (r.ct.bad + 1) = r.ct.bad + 1 := IntWalk.i64_in _ ⟨by omega, by omega⟩
                have h1m : (1 : Int) ≤ (m : Int) := by omega
                have HP10 := hide (HP9.out.cell HSY.out 16 (.int .i64 (r.ct.bad + 1)) (ct := { r.ct with bad := r.ct.bad + 1 }) rfl)
                obtain ⟨jvn, hjn⟩ : ∃ v, v = jv' := ⟨_, rfl⟩
                have HJN : Hid (∀ q, jvn.ownBlock = some q → q < w.heap.size → S q) := by rw [hjn]; exact HJ.out
                rw [← hjn] at HP10
                have HST := hide HSTEP.out
                have HRDN := hide (HRB.out.bad (by omega))
                clear hjn
                by_cases hcap : cap = 1
                · subst hcap
                  have hmk : m = 1 := by omega
                  have hd := HP10.out.dropAll (by rw [HLN.out]) 1 (by rw [HLN.out]; exact hmk.symm)
                  have HD := hide hd
                  clear hd
                  subst hmk
                  go_wp2_with fail
                  go_roundg 0
                  case measure => have := HG.out; omega
                  case rel => exact ⟨f', jvn, ls.drop 1, _, by rw [List.length_drop, HLN.out], by rw [List.length_drop, HLN.out]; omega, by rw [List.length_drop, HLN.out]; omega, HST.out.symm.trans HRR.out, HD.out, HJN.out, by rw [List.length_drop, HLN.out]; exact HRDN.out, fun q hq => HIN2.out q (List.mem_of_mem_drop hq)⟩
                · have hd := HP10.out.drop (by rw [HLN.out]) 1 (cap - 1) (by rw [HLN.out]; omega) (by rw [HLN.out]; omega) (by omega)
                  rw [HLN.out] at hd
                  have HD := hide hd
                  clear hd
                  go_wp2_with fail
                  go_roundg (m - 1)
                  case measure => have := HG.out; omega
                  case rel => exact ⟨f', jvn, ls.drop 1, _, by rw [List.length_drop, HLN.out], by rw [List.length_drop, HLN.out]; omega, by rw [List.length_drop, HLN.out]; omega, HST.out.symm.trans HRR.out, HD.out, HJN.out, by rw [List.length_drop, HLN.out]; exact HRDN.out, fun q hq => HIN2.out q (List.mem_of_mem_drop hq)⟩
              ·
                have h4 := HLONG.out (.inl hm)
                rw [hm] at HM HSTEP
                simp only [msgJ, msgK] at HM HSTEP
                clear hm
                go_wp2_with fail
                refine HM.out.mono ?_
                rintro e w9 ⟨rfl, b9⟩
                have HP9 := hide ((HP2.out.below HSS.out b9).below HSS.out ((Below.refl _ _).alloc (Nat.le_refl _) (.cells #[.int .i64 0, .int .i64 0, .int .i64 0, .int .i64 0] 169)))
                clear b9
                have hY9 := HP9.out.rc.blk.lt
                have k15 : (w9.alloc (.cells #[.int .i64 0, .int .i64 0, .int .i64 0, .int .i64 0] 169)).cell? ⟨Y, 15, none⟩ = some (.int .i64 r.ct.unknown) := HP9.out.rc.blk.cell 15
                have k15f := HP9.out.rc.blk.free 15
                have hb0 := HRB.out.u0
                have hb1 := HRB.out.u1
                have hwr : IntKind.i64.wrap (r.ct.unknown + 1) = r.ct.unknown + 1 := IntWalk.i64_in _ ⟨by omega, by omega⟩
                have h1m : (4 : Int) ≤ (m : Int) := by omega
                have HP10 := hide (HP9.out.cell HSY.out 15 (.int .i64 (r.ct.unknown + 1)) (ct := { r.ct with unknown := r.ct.unknown + 1 }) rfl)
                obtain ⟨jvn, hjn⟩ : ∃ v, v = jv' := ⟨_, rfl⟩
                have HJN : Hid (∀ q, jvn.ownBlock = some q → q < w.heap.size → S q) := by rw [hjn]; exact HJ.out
                rw [← hjn] at HP10
                have HST := hide HSTEP.out
                have HRDN := hide (HRB.out.unk h4)
                clear hjn
                by_cases hcap : cap = 4
                · subst hcap
                  have hmk : m = 4 := by omega
                  have hd := HP10.out.dropAll (by rw [HLN.out]) 4 (by rw [HLN.out]; exact hmk.symm)
                  have HD := hide hd
                  clear hd
                  subst hmk
                  go_wp2_with fail
                  go_roundg 0
                  case measure => have := HG.out; omega
                  case rel => exact ⟨f', jvn, ls.drop 4, _, by rw [List.length_drop, HLN.out], by rw [List.length_drop, HLN.out]; omega, by rw [List.length_drop, HLN.out]; omega, HST.out.symm.trans HRR.out, HD.out, HJN.out, by rw [List.length_drop, HLN.out]; exact HRDN.out, fun q hq => HIN2.out q (List.mem_of_mem_drop hq)⟩
                · have hd := HP10.out.drop (by rw [HLN.out]) 4 (cap - 4) (by rw [HLN.out]; omega) (by rw [HLN.out]; omega) (by omega)
                  rw [HLN.out] at hd
                  have HD := hide hd
                  clear hd
                  go_wp2_with fail
                  go_roundg (m - 4)
                  case measure => have := HG.out; omega
                  case rel => exact ⟨f', jvn, ls.drop 4, _, by rw [List.length_drop, HLN.out], by rw [List.length_drop, HLN.out]; omega, by rw [List.length_drop, HLN.out]; omega, HST.out.symm.trans HRR.out, HD.out, HJN.out, by rw [List.length_drop, HLN.out]; exact HRDN.out, fun q hq => HIN2.out q (List.mem_of_mem_drop hq)⟩
              ·
                have h4 := HLONG.out (.inr ⟨kk, cost, tick, hm⟩)
                obtain ⟨g1, g2, g3, g4, g5, g6⟩ := HTSK.out kk cost tick hm
                rw [hm] at HM HSTEP
                simp only [msgJ, msgK] at HM HSTEP
                clear hm
                obtain ⟨DL, hDL⟩ : ∃ d, tick + (x.cfg.tasks.map Tk.due).getD kk.toNat 0 = d := ⟨_, rfl⟩
                rw [hDL] at HM HSTEP
                clear hDL
                go_wp2_with fail
                refine HM.out.mono ?_
                rintro e w9 ⟨rfl, b9⟩
                have HQ9 := hide (HP2.out.below HSS.out b9)
                have HP9 := hide (HQ9.out.below HSS.out ((Below.refl _ _).alloc (Nat.le_refl _) (.cells #[.int .i64 0, .int .i64 kk, .int .i64 DL, .int .i64 cost] 169)))
                clear b9
                have hY9 := HP9.out.rc.blk.lt
                have hYw : Y < w9.heap.size := HQ9.out.rc.blk.lt
                obtain ⟨ja, jc, hjv⟩ := ownsRow_slice HP9.out.rc.jbs
                simp only at hjv
                have k7 : (w9.alloc (.cells #[.int .i64 0, .int .i64 kk, .int .i64 DL, .int .i64 cost] 169)).cell? ⟨Y, 7, none⟩ = some (.slice ja r.jobs.length jc) := by rw [← hjv]; exact HP9.out.rc.blk.cell 7
                have k1 : (w9.alloc (.cells #[.int .i64 0, .int .i64 kk, .int .i64 DL, .int .i64 cost] 169)).cell? ⟨Y, 1, none⟩ = some (.int .i64 x.cfg.room) := HP9.out.rc.blk.cell 1
                have h1m : (4 : Int) ≤ (m : Int) := by omega
                go_upto_region 15 with (fail)
                by_cases hroom : (r.jobs.length : Int) = x.cfg.room
                · rw [if_pos hroom] at HSTEP
                  have hroomb : ((r.jobs.length : Int) == x.cfg.room) = true := by simp [hroom]
                  go_quiet ((fail))
                  have hba : Below w9.heap.size w9 ((w9.alloc (.cells #[.int .i64 0, .int .i64 kk, .int .i64 DL, .int .i64 cost] 169)).drewN nq) := below_drewN ((Below.refl _ _).alloc (Nat.le_refl _) _) nq
                  have HJK : Hid (Blk ((w9.alloc (.cells #[.int .i64 0, .int .i64 kk, .int .i64 DL, .int .i64 cost] 169)).drewN nq) w9.heap.size #[.int .i64 0, .int .i64 kk, .int .i64 DL, .int .i64 cost] 169) := (Blk.new w9 _ _).later (below_drewN (Below.refl (w9.heap.size + 1) _) nq) (Nat.lt_succ_self _)
                  have HP10 := hide (HQ9.out.below HSS.out hba)
                  have HP11 := hide (HP10.out.cell HSY.out 14 (.int .i64 (r.ct.lost + 1)) (ct := { r.ct with lost := r.ct.lost + 1 }) rfl)
                  have HJ11 := hide (HJK.out.other (a := ⟨Y, 14, none⟩) (by show w9.heap.size ≠ Y; omega) (.int .i64 (r.ct.lost + 1)))
                  have k14 : ((w9.alloc (.cells #[.int .i64 0, .int .i64 kk, .int .i64 DL, .int .i64 cost] 169)).drewN nq).cell? ⟨Y, 14, none⟩ = some (.int .i64 r.ct.lost) := HP10.out.rc.blk.cell 14
                  have k14f := HP10.out.rc.blk.free 14
                  have hj0 := HRB.out.l0
                  have hj1 := HRB.out.l1
                  have hwr : IntKind.i64.wrap (r.ct.lost + 1) = r.ct.lost + 1 := IntWalk.i64_in _ ⟨by omega, by omega⟩
                  clear hba k7 k1
                  go_upto_region 17 with (fail)
                  generalize (((w9.alloc (.cells #[.int .i64 0, .int .i64 kk, .int .i64 DL, .int .i64 cost] 169)).drewN nq).setCell ⟨Y, 14, none⟩ (.int .i64 (r.ct.lost + 1))) = W11 at *
                  have j1 : W11.cell? ⟨w9.heap.size, 1, none⟩ = some (.int .i64 kk) := HJ11.out.cell 1
                  have j2 : W11.cell? ⟨w9.heap.size, 2, none⟩ = some (.int .i64 DL) := HJ11.out.cell 2
                  have hjl := HJ11.out.lt
                  have hz11 : w.heap.size ≤ W11.heap.size := HP11.out.fr.size
                  have hbe : Below W11.heap.size W11 (W11.alloc (.cells #[.int .i64 3, .int .i64 t, .int .i64 (-1), .int .i64 kk, .int .i64 DL] 149)) := (Below.refl _ _).alloc (Nat.le_refl _) _
                  have HBE := hide hbe
                  have HEV : Hid (EvP (W11.alloc (.cells #[.int .i64 3, .int .i64 t, .int .i64 (-1), .int .i64 kk, .int .i64 DL] 149)) w.heap.size (.slice oa r.out.length oc) r.out) := HP11.out.ev.later hbe
                  have HFR := hide (fresh_cells W11 (evCells ⟨3, t, -1, kk, DL⟩) 149 _ rfl)
                  have hou := HRB.out.ou
                  clear hbe k14 k14f
                  go_wp2_with (at_builtin; go_must (refine wpList_appEv rfl _ _ rfl w.heap.size (.slice oa r.out.length oc) r.out ⟨3, t, -1, kk, DL⟩ rfl HEV.out ⟨W11.heap.size, 0, none⟩ 1 rfl HFR.out (by omega) (by first | omega | (simp; omega)) ?_))
                  intro v5 w5 e5 g5 o5
                  have HP12 := hide (HP11.out.out HSS.out HT.out HBE.out g5 e5)
                  obtain ⟨l5, c5, hv5⟩ := ownsRow_slice e5
                  generalize (r.out ++ [(⟨3, t, -1, kk, DL⟩ : Ev)]).length = n5 at hv5
                  subst hv5
                  clear e5 g5 o5
                  obtain ⟨jvn, hjn⟩ : ∃ v, v = jv' := ⟨_, rfl⟩
                  have HJN : Hid (∀ q, jvn.ownBlock = some q → q < w.heap.size → S q) := by rw [hjn]; exact HJ.out
                  rw [← hjn] at HP12
                  have HST := hide HSTEP.out
                  have HRDN := hide (HRB.out.lost h4 ⟨3, t, -1, kk, DL⟩)
                  clear hjn
                  by_cases hcap : cap = 4
                  · subst hcap
                    have hmk : m = 4 := by omega
                    have hd := HP12.out.dropAll (by rw [HLN.out]) 4 (by rw [HLN.out]; exact hmk.symm)
                    have HD := hide hd
                    clear hd
                    subst hmk
                    go_wp2_with fail
                    go_roundg 0
                    case measure => have := HG.out; omega
                    case rel => exact ⟨f', jvn, ls.drop 4, _, by rw [List.length_drop, HLN.out], by rw [List.length_drop, HLN.out]; omega, by rw [List.length_drop, HLN.out]; omega, HST.out.symm.trans HRR.out, HD.out, HJN.out, by rw [List.length_drop, HLN.out]; exact HRDN.out, fun q hq => HIN2.out q (List.mem_of_mem_drop hq)⟩
                  · have hd := HP12.out.drop (by rw [HLN.out]) 4 (cap - 4) (by rw [HLN.out]; omega) (by rw [HLN.out]; omega) (by omega)
                    rw [HLN.out] at hd
                    have HD := hide hd
                    clear hd
                    go_wp2_with fail
                    go_roundg (m - 4)
                    case measure => have := HG.out; omega
                    case rel => exact ⟨f', jvn, ls.drop 4, _, by rw [List.length_drop, HLN.out], by rw [List.length_drop, HLN.out]; omega, by rw [List.length_drop, HLN.out]; omega, HST.out.symm.trans HRR.out, HD.out, HJN.out, by rw [List.length_drop, HLN.out]; exact HRDN.out, fun q hq => HIN2.out q (List.mem_of_mem_drop hq)⟩
                · have hroomb : ((r.jobs.length : Int) == x.cfg.room) = false := by simp [hroom]
                  rw [if_neg hroom] at HSTEP
                  go_quiet ((fail))
                  have hba : Below w9.heap.size w9 (((w9.alloc (.cells #[.int .i64 0, .int .i64 kk, .int .i64 DL, .int .i64 cost] 169)).drewN nq).setCell ⟨w9.heap.size, 0, none⟩ (.int .i64 r.ct.jobs)) := (below_drewN ((Below.refl _ _).alloc (Nat.le_refl _) _) nq).setCell (Nat.le_refl _) _
                  have HJK : Hid (Blk (((w9.alloc (.cells #[.int .i64 0, .int .i64 kk, .int .i64 DL, .int .i64 cost] 169)).drewN nq).setCell ⟨w9.heap.size, 0, none⟩ (.int .i64 r.ct.jobs)) w9.heap.size #[.int .i64 r.ct.jobs, .int .i64 kk, .int .i64 DL, .int .i64 cost] 169) := by
                    have := ((Blk.new w9 #[.int .i64 0, .int .i64 kk, .int .i64 DL, .int .i64 cost] 169).later (below_drewN (Below.refl (w9.heap.size + 1) _) nq) (Nat.lt_succ_self _)).set 0 (.int .i64 r.ct.jobs)
                    exact this
                  have HPq := hide (HP9.out.below HSS.out (below_drewN (Below.refl _ _) nq))
                  have HP10 := hide (HQ9.out.below HSS.out hba)
                  have HP11 := hide (HP10.out.cell HSY.out 11 (.int .i64 (r.ct.jobs + 1)) (ct := { r.ct with jobs := r.ct.jobs + 1 }) rfl)
                  have HJ11 := hide (HJK.out.other (a := ⟨Y, 11, none⟩) (by show w9.heap.size ≠ Y; omega) (.int .i64 (r.ct.jobs + 1)))
                  have k11 : ((w9.alloc (.cells #[.int .i64 0, .int .i64 kk, .int .i64 DL, .int .i64 cost] 169)).drewN nq).cell? ⟨Y, 11, none⟩ = some (.int .i64 r.ct.jobs) := HPq.out.rc.blk.cell 11
                  have k11f := HPq.out.rc.blk.free 11
                  have hj0 := HRB.out.j0
                  have hj1 := HRB.out.j1
                  have hwr : IntKind.i64.wrap (r.ct.jobs + 1) = r.ct.jobs + 1 := IntWalk.i64_in _ ⟨by omega, by omega⟩
                  clear hba
                  go_upto_region 20 with (fail)
                  generalize (((w9.alloc (.cells #[.int .i64 0, .int .i64 kk, .int .i64 DL, .int .i64 cost] 169)).drewN nq).setCell ⟨w9.heap.size, 0, none⟩ (.int .i64 r.ct.jobs)).setCell ⟨Y, 11, none⟩ (.int .i64 (r.ct.jobs + 1)) = W11 at *
                  have j0 : W11.cell? ⟨w9.heap.size, 0, none⟩ = some (.int .i64 r.ct.jobs) := HJ11.out.cell 0
                  have j1 : W11.cell? ⟨w9.heap.size, 1, none⟩ = some (.int .i64 kk) := HJ11.out.cell 1
                  have j2 : W11.cell? ⟨w9.heap.size, 2, none⟩ = some (.int .i64 DL) := HJ11.out.cell 2
                  have j3 : W11.cell? ⟨w9.heap.size, 3, none⟩ = some (.int .i64 cost) := HJ11.out.cell 3
                  have hjl := HJ11.out.lt
                  have hY11 := HP11.out.rc.blk.lt
                  have y7 : W11.cell? ⟨Y, 7, none⟩ = some (.slice ja r.jobs.length jc) := by rw [← hjv]; exact HP11.out.rc.blk.cell 7
                  have y7f := HP11.out.rc.blk.free 7
                  have hz11 : w.heap.size ≤ W11.heap.size := HP11.out.fr.size
                  have hnj := HRB.out.nj
                  have HROOM : Hid (¬ (r.jobs.length : Int) = x.cfg.room) := hroom
                  clear k11 k11f k7 k1 hroom hroomb
                  obtain ⟨i0, hi0, hz0, hz1, hz2⟩ := info_parts info_rjob
                  have HI := hide (And.intro hi0 (And.intro hz0 (And.intro hz1 hz2)))
                  have hq1 : Below W11.heap.size W11 (W11.alloc (.cells #[.int .i64 r.ct.jobs, .int .i64 kk, .int .i64 DL, .int .i64 cost] 169)).drew := ((Below.refl _ _).alloc (Nat.le_refl _) _).drew
                  have hjbs : RJobP W11 base (.slice ja r.jobs.length jc) r.jobs := by rw [← hjv]; exact HP11.out.rc.jbs
                  have HO : Hid ((W11.alloc (.cells #[.int .i64 r.ct.jobs, .int .i64 kk, .int .i64 DL, .int .i64 cost] 169)).drew.ownsRow base 169 4 (.slice ja r.jobs.length jc) r.jobs.length (rjrow r.jobs)) := ownsRow_same hjbs fun q e => hq1.block q (ownsRow_lt hjbs e).2
                  have HNEW : Hid (∀ (j : Nat) (u : Value), [Value.int .i64 r.ct.jobs, Value.int .i64 kk, Value.int .i64 DL, Value.int .i64 cost][j]? = some u → (W11.alloc (.cells #[.int .i64 r.ct.jobs, .int .i64 kk, .int .i64 DL, .int .i64 cost] 169)).drew.cell? ((⟨W11.heap.size, 0, none⟩ : Addr).add j) = some u) := fun j u hj => fresh_cells W11 [Value.int .i64 r.ct.jobs, Value.int .i64 kk, Value.int .i64 DL, Value.int .i64 cost] 169 W11.heap.size rfl j u hj
                  have HONE : Hid (∀ u ∈ [Value.int .i64 r.ct.jobs, Value.int .i64 kk, Value.int .i64 DL, Value.int .i64 cost], u.oneCell' = true) := by
                    intro u hu
                    simp at hu
                    rcases hu with rfl | rfl | rfl | rfl <;> rfl
                  have HYW : Hid (Blk (W11.alloc (.cells #[.int .i64 r.ct.jobs, .int .i64 kk, .int .i64 DL, .int .i64 cost] 169)).drew Y _ 142) := (HP11.out.rc.blk.alloc _).drew
                  have HNE : Hid (Value.ownBlock (.slice ja r.jobs.length jc) ≠ some Y) := ownsRow_ne_blk hjbs HP11.out.rc.blk (by decide)
                  have HQ1 := hide hq1
                  obtain ⟨⟨-, -⟩, ⟨rm1, rm2⟩, -⟩ := cfgNum HOK.out
                  have hbw : base ≤ W11.heap.size := by omega
                  clear hi0 hz0 hz1 hz2 hq1 hjbs
                  apply wp_some3 (fun (xa : Option Addr) (xc : Nat) (w4 : World) => w4.ownsRow base 169 4 (.slice xa (r.jobs.length + 1) xc) (r.jobs.length + 1) (rjrow r.jobs ++ [Value.int .i64 r.ct.jobs, Value.int .i64 kk, Value.int .i64 DL, Value.int .i64 cost]) ∧ (W11.alloc (.cells #[.int .i64 r.ct.jobs, .int .i64 kk, .int .i64 DL, .int .i64 cost] 169)).drew.grownBy w4 (Value.slice ja r.jobs.length jc).ownBlock ∧ ((Value.slice xa (r.jobs.length + 1) xc).ownBlock = (Value.slice ja r.jobs.length jc).ownBlock ∨ (Value.slice xa (r.jobs.length + 1) xc).ownBlock = some (W11.alloc (.cells #[.int .i64 r.ct.jobs, .int .i64 kk, .int .i64 DL, .int .i64 cost] 169)).drew.heap.size))
                  case h =>
                    go_region_law (first | (refine step_append_own rfl (.tmp 109) (.tmp 111) 140 rfl base 169 i0 (.agg #[.int .i64 0, .int .i64 0, .int .i64 0, .int .i64 0]) 4 32 Tryz.underlying140 HI.out.1 HI.out.2.1 HI.out.2.2.1 HI.out.2.2.2 rfl (by decide) (.slice ja r.jobs.length jc) r.jobs.length (rjrow r.jobs) (by simp [Act.eval]) HO.out ⟨W11.heap.size, 0, none⟩ 1 1 [Value.int .i64 r.ct.jobs, Value.int .i64 kk, Value.int .i64 DL, Value.int .i64 cost] (by simp [Act.eval]) rfl HNEW.out HONE.out (by decide) (by unfold maxLen; omega) (by omega) (by simp <;> omega) ?_; intro v1 w4 hown hgrow hat; obtain ⟨xa, xc, rfl⟩ := ownsRow_slice hown; have hy4 := (hgrow.block Y (by simp <;> omega) (fun e => HNE.out e.symm)).trans HYW.out; have d7 : w4.cell? ⟨Y, 7, none⟩ = some (.slice ja r.jobs.length jc) := (by rw [← hjv]; exact Blk.cell hy4 7); have d7f := Blk.free hy4 7; have hs4 := hgrow.size; have HOW := hide hown; have HGR := hide hgrow; have HAT := hide hat; clear hown hgrow hat hy4))
                    all_goals exact ⟨xa, xc, w4, ⟨HOW.out, HGR.out, HAT.out⟩, rfl, rfl⟩
                  rintro xa xc w5 ⟨how, hgr, hat⟩
                  have hrj : RJobP w5 base (.slice xa (r.jobs.length + 1) xc) (r.jobs ++ [(⟨r.ct.jobs, kk, DL, cost⟩ : Jb)]) := by
                    unfold RJobP
                    rw [rjrow_append, List.length_append]
                    exact how
                  rw [← hjv] at hgr hat
                  have HP12 := hide (HP11.out.jobs HSS.out HT.out HSY.out HJ.out HQ1.out hgr hrj hat)
                  obtain ⟨jvn, hjn⟩ : ∃ v, v = Value.slice xa (r.jobs.length + 1) xc := ⟨_, rfl⟩
                  have HJN : Hid (∀ q, jvn.ownBlock = some q → q < w.heap.size → S q) := by
                    rw [hjn]
                    intro q e hq
                    rcases hat with e' | e'
                    · rw [e'] at e; exact HJ.out q e hq
                    · rw [e'] at e
                      have hzz : (W11.alloc (.cells #[.int .i64 r.ct.jobs, .int .i64 kk, .int .i64 DL, .int .i64 cost] 169)).drew.heap.size = W11.heap.size + 1 := by first | rfl | simp
                      simp only [Option.some.injEq] at e
                      omega
                  rw [← hjn] at HP12
                  have HST := hide HSTEP.out
                  have HRDN := hide (HRB.out.job h4 HROOM.out ⟨r.ct.jobs, kk, DL, cost⟩)
                  clear how hgr hat hrj
                  subst hjn
                  by_cases hcap : cap = 4
                  · subst hcap
                    have hmk : m = 4 := by omega
                    have hd := HP12.out.dropAll (by rw [HLN.out]) 4 (by rw [HLN.out]; exact hmk.symm)
                    have HD := hide hd
                    clear hd
                    subst hmk
                    go_wp2_with fail
                    go_roundg 0
                    case measure => have := HG.out; omega
                    case rel => exact ⟨f', (Value.slice xa (r.jobs.length + 1) xc), ls.drop 4, _, by rw [List.length_drop, HLN.out], by rw [List.length_drop, HLN.out]; omega, by rw [List.length_drop, HLN.out]; omega, HST.out.symm.trans HRR.out, HD.out, HJN.out, by rw [List.length_drop, HLN.out]; exact HRDN.out, fun q hq => HIN2.out q (List.mem_of_mem_drop hq)⟩
                  · have hd := HP12.out.drop (by rw [HLN.out]) 4 (cap - 4) (by rw [HLN.out]; omega) (by rw [HLN.out]; omega) (by omega)
                    rw [HLN.out] at hd
                    have HD := hide hd
                    clear hd
                    go_wp2_with fail
                    go_roundg (m - 4)
                    case measure => have := HG.out; omega
                    case rel => exact ⟨f', (Value.slice xa (r.jobs.length + 1) xc), ls.drop 4, _, by rw [List.length_drop, HLN.out], by rw [List.length_drop, HLN.out]; omega, by rw [List.length_drop, HLN.out]; omega, HST.out.symm.trans HRR.out, HD.out, HJN.out, by rw [List.length_drop, HLN.out]; exact HRDN.out, fun q hq => HIN2.out q (List.mem_of_mem_drop hq)⟩
      case rest =>
        obtain ⟨jv', ls, r, hEq, hp, hj, hl32, ho32⟩ := hcut
        have HP2 := hide hp
        have HJ := hide hj
        have HEQ := hide hEq
        have hYc := hp.rc.blk.lt
        have hLc := hp.rc.lns.lt
        have hzc := hp.fr.size
        obtain ⟨oa, oc, hov⟩ := ownsRow_slice hp.ev
        subst hov
        obtain ⟨lwa, lwc, hlw⟩ := hp.wi.slice
        subst hlw
        have HW := hide hp.wi
        have HONE := hide (frow_one ls)
        have HONA := hide (frow_one FA)
        clear hp hj hEq
        go_wp2_with (at_builtin; go_must (refine wpList_appWin rfl _ _ 143 146 (.agg #[.int .u8 0, .int .i64 0]) 2 16 rfl Tryz.underlying143 info_rfed rfl (by decide) (by decide) wc.heap.size w.heap.size (.slice none 0 0) _ 0 ls.length [] (frow ls) rfl (World.ownsRow_nil _ _ _ _) rfl HW.out HONE.out (by omega) (Nat.le_refl _) ?_))
        intro v6 w6 e6 g6 o6
        have hb6 : Below wc.heap.size wc w6 := ⟨g6.os, g6.tape, g6.output, g6.size, fun q hq => g6.block q hq (by simp [Value.ownBlock])⟩
        have hp6 := HP2.out.below HSS.out hb6
        obtain ⟨ra, rc, hv6⟩ := ownsRow_slice e6
        subst hv6
        have HE6 := hide e6
        have HP6 := hide hp6
        have HB6 := hide hb6
        have hz6 := hb6.size
        have y6 : w6.cell? ⟨Y, 6, none⟩ = some (.slice (some ⟨L, 0, none⟩) nl nl) := by rw [← HNL.out]; exact hp6.rc.blk.cell 6
        have y7 : w6.cell? ⟨L, k, none⟩ = some (.slice va n vc) := (hp6.rc.lns.cell k).trans (by simp [HV.out])
        have HLA := hide hp6.la
        have hY6 : Y < w6.heap.size := by omega
        have hL6 : L < w6.heap.size := by omega
        have HRB6 : Hid (∀ q, Value.ownBlock (.slice ra ls.length rc) = some q → wc.heap.size ≤ q) := fun q e => (ownsRow_lt e6 e).1
        have HYB := hide hp6.rc.blk
        have HLB := hide hp6.rc.lns
        have hnlL := HNL.out
        clear e6 g6 o6 hb6 hp6 HW HONE
        go_upto_region 29 with (fail)
        apply wp_some3 (fun (xa : Option Addr) (xc : Nat) (w7 : World) => w7.ownsRow wc.heap.size 146 2 (.slice xa (ls.length + FA.length) xc) (ls.length + FA.length) (frow ls ++ frow FA) ∧ w6.drew.grownBy w7 (Value.slice ra ls.length rc).ownBlock)
        case h =>
          go_region_law (first | (refine step_appWin rfl (.tmp 149) (.tmp 150) 143 146 (.agg #[.int .u8 0, .int .i64 0]) 2 16 rfl Tryz.underlying143 info_rfed rfl (by decide) (by decide) wc.heap.size w.heap.size (.slice ra ls.length rc) (.slice ala FA.length alc) ls.length FA.length (frow ls) (frow FA) (by simp [Act.eval, Act.put]) (ownsRow_same HE6.out fun _ _ => rfl) (by simp [Act.eval, Act.put]) (ownsRow_win (ownsRow_same HLA.out fun _ _ => rfl)) HONA.out (by omega) (by simp <;> omega) ?_; intro v7 w7 hown hgrow hat; obtain ⟨xa, xc, rfl⟩ := ownsRow_slice hown; have hy7 := (hgrow.block Y (by simp <;> omega) (fun e => by have := HRB6.out Y e.symm; omega)).trans HYB.out; have hl7 := (hgrow.block L (by simp <;> omega) (fun e => by have := HRB6.out L e.symm; omega)).trans HLB.out; have d6 : w7.cell? ⟨Y, 6, none⟩ = some (.slice (some ⟨L, 0, none⟩) nl nl) := (by rw [← hnlL]; exact Blk.cell hy7 6); have d7 : w7.cell? ⟨L, k, none⟩ = some (.slice va n vc) := ((Blk.cell hl7 k).trans (by simp [HV.out])); have d7f := Blk.free hl7 k; have hs7 := hgrow.size; have HOW := hide hown; have HGR := hide hgrow; clear hown hgrow hat hy7 hl7))
          all_goals exact ⟨xa, xc, w7, ⟨HOW.out, HGR.out⟩, rfl, rfl⟩
        rintro xa xc w7 ⟨how, hgr⟩
        have HOW := hide how
        have HGR := hide hgr
        clear how hgr
        go_wp2_with fail
        go_ret
        have hb7 : Below wc.heap.size wc w7 := (HB6.out.drew).trans (below_grownBy_new HGR.out (by simp <;> omega) HRB6.out)
        have hr7 : RFedP w7 base (.slice xa (ls.length + FA.length) xc) (ls ++ FA) := by
          unfold RFedP
          rw [frow_append, List.length_append]
          exact ownsRow_lower' HOW.out (by omega)
        have hrp := HP2.out.rc.line HV.out (Fr.of_below hb7) hr7 (.inr fun q e => (ownsRow_lt HOW.out e).1)
        have hz7 : (w7.setCell ⟨L, k, none⟩ (.slice xa (ls.length + FA.length) xc)).heap.size = w7.heap.size := by simp
        have hz7' := hb7.size
        have he := HEQ.out
        have hx := HEX.out
        rw [he] at hx
        simp only at hx
        have hLo : (Value.slice oa r.out.length oc).ownBlock ≠ some L := ownsRow_ne_blk HP2.out.ev HP2.out.rc.lns (by decide)
        refine ⟨_, rfl, ?_, ⟨fun q => ((S q ∨ jv'.ownBlock = some q) ∨ wc.heap.size ≤ q) ∧ q < w7.heap.size, ⟨jv', lvs.set k (.slice xa (ls.length + FA.length) xc), ?_⟩, fun q e => ⟨?_, by rw [hz7]; exact e.2⟩, fun q e e' => ?_⟩, ?_⟩
        · rw [hx]
          refine ownsRow_same HP2.out.ev fun q e0 => ?_
          have e : (Value.slice oa r.out.length oc).ownBlock = some q := e0
          rw [heap_setCell_other w7 ⟨L, k, none⟩ q _ (fun e' => hLo (by rw [e, e']))]
          exact hb7.block q (ownsRow_lt HP2.out.ev e).2
        · rw [hx]
          refine hrp.mono (fun q hq e => ⟨e, by rw [← hz7]; exact hq⟩) fun q e e' => ?_
          exact (hrp.tl q e).2 e'.1
        · rcases e.1 with (e | e) | e
          · exact .inl e
          · by_cases hq : q < w.heap.size
            · exact .inl (HJ.out q e hq)
            · exact .inr (by omega)
          · exact .inr (by omega)
        · have h1 := ownsRow_lt HP2.out.ev e
          rcases e'.1 with (e' | e') | e'
          · have := HSS.out q e'; omega
          · exact ownsRow_ne HP2.out.ev HP2.out.rc.jbs (by decide) e e'
          · omega
        · exact (HP2.out.fr.then_below hb7).trans (Fr.set (X := S) w7 L k _ HR.out.sl) fun _ _ e => e

end Go.Proofs.YthloffgebebijaaGreat
