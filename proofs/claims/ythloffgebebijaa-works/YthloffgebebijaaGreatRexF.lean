/- RexF: the walk of the reference's round. -/
import Derived.Test.YthloffgebebijaaGreatRexE
import Derived.Test.YthloffgebebijaaGreatRexD
namespace Go.Proofs.YthloffgebebijaaGreat
open Go.RowKit

theorem erow_len (l : List Ev) : (erow l).length = l.length * 5 := by
  rw [erow, flatten_len (k := 5), List.length_map]
  intro c hc
  obtain ⟨j, _, rfl⟩ := List.mem_map.1 hc
  rfl
theorem erow_one (l : List Ev) : ∀ u ∈ erow l, u.oneCell' = true := by
  intro u hu
  obtain ⟨c, hc, hu⟩ := List.mem_flatten.1 hu
  obtain ⟨f, _, rfl⟩ := List.mem_map.1 hc
  simp only [evCells, List.mem_cons, List.not_mem_nil, or_false] at hu
  rcases hu with rfl | rfl | rfl | rfl | rfl <;> rfl
theorem rjrow_drop (l : List Jb) (m : Nat) : (rjrow l).drop (m * 4) = rjrow (l.drop m) := by
  induction l generalizing m with
  | nil => simp [rjrow]
  | cons c r ih =>
    cases m with
    | zero => simp
    | succ m =>
      have h1 : rjrow (c :: r) = rjCells c ++ rjrow r := by simp [rjrow]
      have h2 : (rjCells c).length = 4 := rfl
      rw [h1, List.drop_append, h2, List.drop_eq_nil_of_le (by rw [h2]; omega), List.nil_append, show (m + 1) * 4 - 4 = m * 4 from by omega, ih, List.drop_succ_cons]
theorem rjrow_take (l : List Jb) (m : Nat) : (rjrow l).take (m * 4) = rjrow (l.take m) := by
  induction l generalizing m with
  | nil => simp [rjrow]
  | cons c r ih =>
    cases m with
    | zero => simp [rjrow]
    | succ m =>
      have h1 : rjrow (c :: r) = rjCells c ++ rjrow r := by simp [rjrow]
      have h2 : (rjCells c).length = 4 := rfl
      have h3 : rjrow ((c :: r).take (m + 1)) = rjCells c ++ rjrow (r.take m) := by simp [rjrow]
      rw [h1, h3, List.take_append, h2, List.take_of_length_le (by rw [h2]; omega), show (m + 1) * 4 - 4 = m * 4 from by omega, ih]
theorem rj_erase (js : List Jb) (k : Nat) : rjrow (js.eraseIdx k) = (rjrow js).take (k * 4) ++ (rjrow js).drop ((k + 1) * 4) := by
  rw [List.eraseIdx_eq_take_drop_succ, rjrow_append, rjrow_take, rjrow_drop]
theorem RJobP.at {w : World} {base : Nat} {v : Value} {d : List Jb} (p : RJobP w base v d) {i : Nat} {j : Jb} (hs : d[i]? = some j) : ∃ dg dc, v = .slice (some ⟨dg, 0, none⟩) d.length dc ∧ dg < w.heap.size ∧ d.length ≤ dc ∧ dc ≤ maxLen ∧ JobAt w dg (i * 4) j := by
  have hil := lt_of_get hs
  obtain ⟨dg, dcap, hdg, h1, h2⟩ := ownsRow_some p (by omega)
  subst hdg
  refine ⟨dg, dcap, rfl, (ownsRow_lt p (k := dg) rfl).2, h1, h2, ?_⟩
  have hc : ∀ q v, q < 4 → (rjCells j)[q]? = some v → w.cell? ⟨dg, i * 4 + q, none⟩ = some v := fun q v hq hv => by
    have hg : (rjrow d)[i * 4 + q]? = some v := by rw [rjrow_get hs q hq]; exact hv
    have h1 := World.ownsRow.cells (g := dg) p (by rfl) (i * 4 + q) _ hg
    rw [Addr.add] at h1
    split at h1
    · rename_i h0; rw [h0]; exact h1
    · simpa using h1
  exact ⟨hc 0 _ (by decide) rfl, hc 1 _ (by decide) rfl, hc 2 _ (by decide) rfl, hc 3 _ (by decide) rfl⟩

set_option maxRecDepth 100000 in
set_option maxHeartbeats 6400000 in
theorem rRound_any (S T : Nat → Prop) (base Y : Nat) (N : Int) (x : Exs) (w : World)
    (h : Rec w S T base Y x) (hS : ∀ q, S q → q < w.heap.size) (hbase : base ≤ w.heap.size) (hi : ExIn x N) (hc : x.clock < 3000) :
    Calls Tryz.prog 73 #[.pointer (some ⟨Y, 0, none⟩)] w fun e w' => ∃ ev, e = .returned ev ∧ EvP w' w.heap.size ev (exRound x).2 ∧ (∃ S', Rec w' S' T base Y (exRound x).1 ∧ (∀ k, S' k → (S k ∨ w.heap.size ≤ k) ∧ k < w'.heap.size) ∧ (∀ k, ev.ownBlock = some k → ¬ S' k)) ∧ Fr S w w' := by
  obtain ⟨L, tv, jv, lvs, h⟩ := h
  have HT : Hid (∀ q, T q → q < w.heap.size) := fun q e => (h.tl q e).1
  have hnl := hi.nl
  obtain ⟨⟨c1, c2⟩, ⟨c3, c4⟩, ⟨c5, c6⟩, ⟨c7, c8⟩, ⟨c9, c10⟩, -⟩ := cfgNum hi.cfg
  have hck0 := hi.ck0
  have h8 : w.cell? ⟨Y, 8, none⟩ = some (.int .i64 x.clock) := h.blk.cell 8
  have hYl := h.blk.lt
  have HSY := hide h.sy
  have HI := hide hi
  have HMI := hide (mid_in hi)
  have HP0 : Hid (Rn2 w w S T base Y L tv (midEx x 0) (midOut x 0) (.slice none 0 0) S jv lvs) := by
    rw [Hid, midEx_zero, midOut_zero]
    exact ⟨World.ownsRow_nil _ _ _ _, h, fun q e => ⟨.inl e, hS q e⟩, fun q e => by simp [Value.ownBlock] at e, Fr.refl _ _⟩
  have HRN := hide (round_none x)
  have HRS := hide (fun j hj => round_some x (j := j) hj)
  generalize hn : x.lines.length = n at *
  have HNN := hide hn
  clear h hi hS hn
  go_enter Tryz.func73, Tryz.ntmps73
  go_wp2_with fail
  go_loopg [4, 5] n (fun g ov iv wr => ∃ (i : Nat) (S' : Nat → Prop) (jv' : Value) (lvs' : List Value), iv = .int .i64 i ∧ g = n - i ∧ i ≤ n ∧ Rn2 w wr S T base Y L tv (midEx x i) (midOut x i) ov S' jv' lvs')
  case atStart => exact ⟨0, S, jv, lvs, rfl, by omega, Nat.zero_le _, HP0.out⟩
  case round =>
    obtain ⟨i, S', jv', lvs', rfl, hg, hil, hp⟩ := hrel
    have HG := hide hg
    have HP := hide hp
    have hYr := hp.rc.blk.lt
    have hzr := hp.fr.size
    have y0 : wr.cell? ⟨Y, 0, none⟩ = some (.int .i64 x.cfg.lines) := hp.rc.blk.cell 0
    have hol := (HMI.out i).2.2.1
    obtain ⟨oa, oc, hov⟩ := ownsRow_slice hp.ev
    subst hov
    clear hg hp h8
    by_cases hlt : i < n
    · have hii : (i : Int) < x.cfg.lines := by omega
      obtain ⟨l, hl⟩ := get_of_lt (l := x.lines) (k := i) (by rw [HNN.out]; exact hlt)
      have hln := HI.out.ln l (List.mem_of_getElem? hl)
      have HRD := hide (rRead_any S' T base Y L i N x.clock (midEx x i) tv jv' lvs' l wr HP.out.rc (fun q e => (HP.out.sub q e).2) (by omega) (mid_line HI.out hl) hln.len (fun f hf => (hln.fd f hf).1) (HMI.out i).2.1 HI.out.cfg HI.out.ck0 (by have := HI.out.ck1; omega))
      have HMS := hide (mid_succ HI.out hl)
      simp only [show (midEx x i).cfg = x.cfg from rfl] at HRD
      have hll := hln.len
      have hol1 := (HMI.out (i + 1)).2.2.1
      rw [HMS.out.2, List.length_append] at hol1
      clear hl hln
      go_wp2_with fail
      refine HRD.out.mono ?_
      rintro e w5 ⟨ev, rfl, e5, ⟨S5, jv5, lvs5, r5, s5, n5⟩, f5⟩
      obtain ⟨ea, ec, hev⟩ := ownsRow_slice e5
      subst hev
      have HO5 : Hid (EvP w5 w.heap.size (.slice oa (midOut x i).length oc) (midOut x i)) := HP.out.ev.same fun q e => f5.block q (ownsRow_lt HP.out.ev e).2 (HP.out.sep q e)
      have HE5 := hide e5
      have HR5 := hide r5
      have HS5 := hide s5
      have HN5 := hide n5
      have HF5 := hide f5
      have hz5 := f5.size
      have HONE := hide (erow_one (exLine x.cfg x.clock l ⟨(midEx x i).jobs, (midEx x i).ct, []⟩).2.out)
      clear e5 r5 s5 n5 f5 HRD
      go_wp2_with (at_builtin; go_must (refine wpList_appWin rfl _ _ 62 149 (.agg #[.int .i64 0, .int .i64 0, .int .i64 0, .int .i64 0, .int .i64 0]) 5 40 rfl Tryz.underlying62 info_ev rfl (by decide) (by decide) w.heap.size wr.heap.size _ _ _ _ (erow (midOut x i)) _ rfl HO5.out rfl (ownsRow_win HE5.out) HONE.out (by omega) (by omega) ?_))
      intro v6 w6 e6 g6 o6
      have he6 : EvP w6 w.heap.size v6 (midOut x i ++ (exLine x.cfg x.clock l ⟨(midEx x i).jobs, (midEx x i).ct, []⟩).2.out) := by
        unfold EvP
        rw [erow_append, List.length_append]
        exact e6
      have hm6 := Rn2.more HT.out HP.out HE5.out HR5.out HS5.out HN5.out HF5.out g6 he6 o6
      have HM6 : Hid (Rn2 w w6 S T base Y L tv (midEx x (i + 1)) (midOut x (i + 1)) v6 S5 jv5 lvs5) := by
        rw [Hid, HMS.out.1, HMS.out.2]
        exact hm6
      obtain ⟨l6, c6', hv6⟩ := ownsRow_slice e6
      subst hv6
      clear e6 g6 o6 he6 hm6
      go_wp2_with fail
      go_roundg (n - (i + 1))
      case measure => have := HG.out; omega
      case rel => exact ⟨i + 1, S5, jv5, lvs5, by go_num, rfl, by omega, HM6.out⟩
    · have hii : ¬ (i : Int) < x.cfg.lines := by omega
      have hin : i = n := by omega
      subst hin
      obtain ⟨-, -, -, hd0, hd1, hj40, hjc⟩ := HMI.out i
      have HJC := hide hjc
      have HMX : Hid ((midEx x i).cfg = x.cfg ∧ (midEx x i).clock = x.clock ∧ (midEx x i).fed = x.fed) := ⟨rfl, rfl, rfl⟩
      generalize hyy : midEx x i = y at *
      generalize hoo : midOut x i = out at *
      have k2 : wr.cell? ⟨Y, 2, none⟩ = some (.int .i64 x.cfg.poll) := by rw [← HMX.out.1]; exact HP.out.rc.blk.cell 2
      have k3 : wr.cell? ⟨Y, 3, none⟩ = some (.int .i64 x.cfg.idle) := by rw [← HMX.out.1]; exact HP.out.rc.blk.cell 3
      have k4 : wr.cell? ⟨Y, 4, none⟩ = some (.int .i64 x.cfg.sw) := by rw [← HMX.out.1]; exact HP.out.rc.blk.cell 4
      have k7 : wr.cell? ⟨Y, 7, none⟩ = some jv' := HP.out.rc.blk.cell 7
      have k8 : wr.cell? ⟨Y, 8, none⟩ = some (.int .i64 x.clock) := by rw [← HMX.out.2.1]; exact HP.out.rc.blk.cell 8
      have k8f := HP.out.rc.blk.free 8
      have hw1 : IntKind.i64.wrap (x.clock + x.cfg.poll) = x.clock + x.cfg.poll := IntWalk.i64_in _ ⟨by omega, by omega⟩
      obtain ⟨ja, jc, hjv⟩ := ownsRow_slice HP.out.rc.jbs
      clear hjc hyy hoo
      by_cases hj : y.jobs = []
      · have HEX := hide (HRN.out hj)
        have hjl : y.jobs.length = 0 := by rw [hj]; rfl
        rw [hjl] at hjv
        subst hjv
        have hw2 : IntKind.i64.wrap (x.clock + x.cfg.poll + x.cfg.idle) = x.clock + x.cfg.poll + x.cfg.idle := IntWalk.i64_in _ ⟨by omega, by omega⟩
        have HC := hide (HP.out.cell HSY.out 8 (.int .i64 (x.clock + x.cfg.poll + x.cfg.idle)) (clock := x.clock + x.cfg.poll + x.cfg.idle) (fed := y.fed) (ct := y.ct) rfl)
        clear hj hjl
        go_wp2_with fail
        go_ret
        rw [HEX.out]
        exact ⟨_, rfl, HC.out.ev, ⟨S', ⟨L, tv, _, lvs', HC.out.rc⟩, HC.out.sub, HC.out.sep⟩, HC.out.fr⟩
      · have hjp : 0 < y.jobs.length := List.length_pos_iff.2 hj
        obtain ⟨j, hjj⟩ := firstJ_some hj
        have HEX := hide (HRS.out j hjj)
        have hkl := lt_of_get hjj
        have HFI := hide (rFirst_any Y wr.heap.size jv' y.jobs wr k7 (ownsRow_win HP.out.rc.jbs).jobs hYr (Nat.le_refl _) hjp (by omega))
        obtain ⟨jg, jcap, hjv2, hjgl, hjc1, hjc2, jat⟩ := RJobP.at HP.out.rc.jbs hjj
        subst hjv2
        have hjcost := HJC.out j (List.mem_of_getElem? hjj)
        generalize hkk : firstJ y.jobs = k at *
        have hjn0 : ¬ ((y.jobs.length : Int) = 0) := by omega
        have hjn0b : ((y.jobs.length : Int) == 0) = false := beq_eq_false_iff_ne.2 hjn0
        clear hkk hjv
        go_wp2_with fail
        refine HFI.out.mono ?_
        rintro e w5 ⟨rfl, b5⟩
        have HP5 := hide (HP.out.below b5)
        obtain ⟨ja0, ja1, ja2, ja3⟩ := jat.later b5 hjgl
        have hz5 := b5.size
        have hb6 : Below w5.heap.size w5 (w5.alloc (.cells #[.int .i64 j.number, .int .i64 j.task, .int .i64 j.deadline, .int .i64 j.cost] 169)) := (Below.refl _ _).alloc (Nat.le_refl _) _
        have HP6 := hide (HP5.out.below hb6)
        have HJ6 := hide (Blk.new w5 #[.int .i64 j.number, .int .i64 j.task, .int .i64 j.deadline, .int .i64 j.cost] 169)
        have hzw6 : (w5.alloc (.cells #[.int .i64 j.number, .int .i64 j.task, .int .i64 j.deadline, .int .i64 j.cost] 169)).heap.size = w5.heap.size + 1 := by simp
        have q7 : w5.cell? ⟨Y, 7, none⟩ = some (.slice (some ⟨jg, 0, none⟩) y.jobs.length jcap) := HP5.out.rc.blk.cell 7
        have hY5 := HP5.out.rc.blk.lt
        have hjg5 : jg < w5.heap.size := by omega
        have hkI : (k : Int) < (y.jobs.length : Int) := by omega
        have hkC : (k : Int) ≤ (jcap : Int) := by omega
        have hk0 : (0 : Int) ≤ (k : Int) := by omega
        clear b5 hb6 HFI
        go_upto_region 15 with (fail)
        generalize (w5.alloc (.cells #[.int .i64 j.number, .int .i64 j.task, .int .i64 j.deadline, .int .i64 j.cost] 169)) = W6 at *
        have hz6lt : w5.heap.size < W6.heap.size := by omega
        clear hzw6
        have z7 : W6.cell? ⟨Y, 7, none⟩ = some (.slice (some ⟨jg, 0, none⟩) y.jobs.length jcap) := HP6.out.rc.blk.cell 7
        have hY6 := HP6.out.rc.blk.lt
        have HW6 := hide (ownsRow_win HP6.out.rc.jbs)
        have HWT := hide (HW6.out.take k (by omega))
        have HO1 : Hid (∀ u ∈ (rjrow y.jobs).take (k * 4), u.oneCell' = true) := fun u hu => rjrow_one _ u (List.mem_of_mem_take hu)
        have HO2 : Hid (∀ u ∈ (rjrow y.jobs).drop ((k + 1) * 4), u.oneCell' = true) := fun u hu => rjrow_one _ u (List.mem_of_mem_drop hu)
        clear q7 ja0 ja1 ja2 ja3 k2 k3 k4 k7 k8 k8f y0
        go_wp2_with (at_builtin; go_must (refine wpList_appWin rfl _ _ 140 169 (.agg #[.int .i64 0, .int .i64 0, .int .i64 0, .int .i64 0]) 4 32 rfl Tryz.underlying140 info_rjob rfl (by decide) (by decide) W6.heap.size base (.slice none 0 0) (.slice (some ⟨jg, 0, none⟩) k jcap) 0 k [] ((rjrow y.jobs).take (k * 4)) rfl (World.ownsRow_nil _ _ _ _) rfl HWT.out HO1.out (by omega) (Nat.le_refl _) ?_))
        intro v7 w7 e7 g7 o7
        have hb7 : Below W6.heap.size W6 w7 := ⟨g7.os, g7.tape, g7.output, g7.size, fun q hq => g7.block q hq (by simp [Value.ownBlock])⟩
        obtain ⟨ra, rc, hv7⟩ := ownsRow_slice e7
        have HE7 := hide e7
        have HB7 := hide hb7
        have HP7 := hide (HP6.out.below hb7)
        have hz7 := hb7.size
        have r7 : w7.cell? ⟨Y, 7, none⟩ = some (.slice (some ⟨jg, 0, none⟩) y.jobs.length jcap) := HP7.out.rc.blk.cell 7
        have r7f := HP7.out.rc.blk.free 7
        have hY7 := HP7.out.rc.blk.lt
        have HW7 := hide (ownsRow_win HP7.out.rc.jbs)
        have hwk : IntKind.i64.wrap ((k : Int) + 1) = (k : Int) + 1 := IntWalk.i64_in _ ⟨by omega, by omega⟩
        have hk1 : (k : Int) + 1 ≤ (y.jobs.length : Int) := by omega
        clear e7 g7 o7 hb7 z7
        subst hv7
        go_upto_region 16 with (fail)
        by_cases hcap : jcap = k + 1
        · have hjn : y.jobs.length = k + 1 := by omega
          have HWD : Hid (Win w7 base 169 4 (.slice (some ⟨jg, 0, none⟩) 0 0) 0 ((rjrow y.jobs).drop ((k + 1) * 4))) := by
            have hd : (rjrow y.jobs).drop ((k + 1) * 4) = [] := List.drop_eq_nil_of_le (by rw [rjrow_length, hjn]; omega)
            rw [Hid, hd]
            rcases HW7.out with ⟨h, _⟩ | ⟨g', o', cap', cur, h1, h2, h3, h4, h5, h6, h7⟩
            · simp at h
            · simp only [Value.slice.injEq, Option.some.injEq, Addr.mk.injEq, and_true, true_and] at h1
              obtain ⟨⟨rfl, rfl⟩, rfl⟩ := h1
              exact .inr ⟨jg, 0, 0, cur, rfl, h2, Nat.le_refl _, by unfold maxLen; omega, h5, rfl, fun i u hi => by simp at hi⟩
          have HMK : Hid (k + 0 = y.jobs.length - 1) := by rw [Hid]; omega
          go_wp2_with (at_builtin; go_must (refine wpList_appWin rfl _ _ 140 169 (.agg #[.int .i64 0, .int .i64 0, .int .i64 0, .int .i64 0]) 4 32 rfl Tryz.underlying140 info_rjob rfl (by decide) (by decide) W6.heap.size base (.slice ra k rc) (.slice (some ⟨jg, 0, none⟩) 0 0) k 0 ((rjrow y.jobs).take (k * 4)) ((rjrow y.jobs).drop ((k + 1) * 4)) rfl HE7.out rfl HWD.out HO2.out (by omega) (by omega) ?_))
          intro v8 w8 e8 g8 o8
          have hb8 : Below W6.heap.size W6 w8 := HB7.out.trans (below_grownBy_new g8 (by omega) fun q e => (ownsRow_lt HE7.out e).1)
          have hrj : RJobP w8 W6.heap.size v8 (y.jobs.eraseIdx k) := by
            unfold RJobP
            rw [rj_erase, List.length_eraseIdx_of_lt hkl, ← HMK.out]
            exact e8
          obtain ⟨rb, rd, hv8⟩ := ownsRow_slice e8
          have HP9 := hide (HP6.out.jobs HSY.out hb8 hrj (by omega))
          have HJ8 := hide (HJ6.out.later hb8 (by omega))
          have hblk8 : Blk w8 Y _ _ := (hb8.block Y (by omega)).trans HP6.out.rc.blk
          have s7 : w8.cell? ⟨Y, 7, none⟩ = some (.slice (some ⟨jg, 0, none⟩) y.jobs.length jcap) := hblk8.cell 7
          have s7f := hblk8.free 7
          have hz8 := hb8.size
          have hY8 : Y < w8.heap.size := by omega
          have HJ9 := hide (HJ8.out.other (a := ⟨Y, 7, none⟩) (by show w5.heap.size ≠ Y; omega) v8)
          clear e8 g8 o8 hb8 hrj r7 r7f hblk8
          subst hv8
          go_upto_region 17 with (fail)
          generalize hW9 : w8.setCell ⟨Y, 7, none⟩ _ = W9 at *
          clear hW9 s7 s7f
          have t4 : W9.cell? ⟨Y, 4, none⟩ = some (.int .i64 x.cfg.sw) := by rw [← HMX.out.1]; exact HP9.out.rc.blk.cell 4
          have t8 : W9.cell? ⟨Y, 8, none⟩ = some (.int .i64 x.clock) := by rw [← HMX.out.2.1]; exact HP9.out.rc.blk.cell 8
          have t8f := HP9.out.rc.blk.free 8
          have tj3 : W9.cell? ⟨w5.heap.size, 3, none⟩ = some (.int .i64 j.cost) := HJ9.out.cell 3
          have hjl9 := HJ9.out.lt
          have hY9 := HP9.out.rc.blk.lt
          obtain ⟨jc1, jc2⟩ := hjcost
          have hwa : IntKind.i64.wrap (x.clock + x.cfg.poll + x.cfg.sw) = x.clock + x.cfg.poll + x.cfg.sw := IntWalk.i64_in _ ⟨by omega, by omega⟩
          have hwb : IntKind.i64.wrap (x.clock + x.cfg.poll + x.cfg.sw + j.cost) = x.clock + x.cfg.poll + x.cfg.sw + j.cost := IntWalk.i64_in _ ⟨by omega, by omega⟩
          go_region
          have hb10 : Below (W9.setCell ⟨Y, 8, none⟩ (.int .i64 (x.clock + x.cfg.poll + x.cfg.sw + j.cost))).heap.size (W9.setCell ⟨Y, 8, none⟩ (.int .i64 (x.clock + x.cfg.poll + x.cfg.sw + j.cost))) (W9.setCell ⟨Y, 8, none⟩ (.int .i64 (x.clock + x.cfg.poll + x.cfg.sw + j.cost))).drew := (Below.refl _ _).drew
          have HP10 := hide ((HP9.out.cell HSY.out 8 (.int .i64 (x.clock + x.cfg.poll + x.cfg.sw + j.cost)) (clock := x.clock + x.cfg.poll + x.cfg.sw + j.cost) (fed := y.fed) (ct := y.ct) rfl).below hb10)
          have HJ10 := hide (HJ9.out.other (a := ⟨Y, 8, none⟩) (by show w5.heap.size ≠ Y; omega) (.int .i64 (x.clock + x.cfg.poll + x.cfg.sw + j.cost))).drew
          generalize (W9.setCell ⟨Y, 8, none⟩ (.int .i64 (x.clock + x.cfg.poll + x.cfg.sw + j.cost))).drew = W10 at *
          have u12 : W10.cell? ⟨Y, 12, none⟩ = some (.int .i64 y.ct.done) := HP10.out.rc.blk.cell 12
          have u12f := HP10.out.rc.blk.free 12
          have hwd : IntKind.i64.wrap (y.ct.done + 1) = y.ct.done + 1 := IntWalk.i64_in _ ⟨by omega, by omega⟩
          have HP11 := hide (HP10.out.cell HSY.out 12 (.int .i64 (y.ct.done + 1)) (clock := x.clock + x.cfg.poll + x.cfg.sw + j.cost) (fed := y.fed) (ct := { y.ct with done := y.ct.done + 1 }) rfl)
          have HJ11 := hide (HJ10.out.other (a := ⟨Y, 12, none⟩) (by show w5.heap.size ≠ Y; omega) (.int .i64 (y.ct.done + 1)))
          have hY10 := HP10.out.rc.blk.lt
          have hj10 := HJ10.out.lt
          clear hb10 t4 t8 t8f tj3
          go_upto_region 19 with (fail)
          generalize W10.setCell ⟨Y, 12, none⟩ (.int .i64 (y.ct.done + 1)) = W11 at *
          have j0 : W11.cell? ⟨w5.heap.size, 0, none⟩ = some (.int .i64 j.number) := HJ11.out.cell 0
          have j1 : W11.cell? ⟨w5.heap.size, 1, none⟩ = some (.int .i64 j.task) := HJ11.out.cell 1
          have j2 : W11.cell? ⟨w5.heap.size, 2, none⟩ = some (.int .i64 j.deadline) := HJ11.out.cell 2
          have v8' : W11.cell? ⟨Y, 8, none⟩ = some (.int .i64 (x.clock + x.cfg.poll + x.cfg.sw + j.cost)) := HP11.out.rc.blk.cell 8
          have hY11 := HP11.out.rc.blk.lt
          have hj11 := HJ11.out.lt
          clear u12 u12f
          go_upto_region 20 with (fail)
          go_region
          have hb13 : Below W11.heap.size W11 ((W11.alloc (.cells #[.int .i64 1, .int .i64 (x.clock + x.cfg.poll), .int .i64 j.number, .int .i64 j.task, .int .i64 j.deadline] 149)).alloc (.cells #[.int .i64 2, .int .i64 (x.clock + x.cfg.poll + x.cfg.sw + j.cost), .int .i64 j.number, .int .i64 j.task, .int .i64 j.deadline] 149)).drew := (((Below.refl _ _).alloc (Nat.le_refl _) _).alloc (by simp) _).drew
          have HP13 := hide (HP11.out.below hb13)
          have HA13 : Hid (Blk ((W11.alloc (.cells #[.int .i64 1, .int .i64 (x.clock + x.cfg.poll), .int .i64 j.number, .int .i64 j.task, .int .i64 j.deadline] 149)).alloc (.cells #[.int .i64 2, .int .i64 (x.clock + x.cfg.poll + x.cfg.sw + j.cost), .int .i64 j.number, .int .i64 j.task, .int .i64 j.deadline] 149)).drew W11.heap.size #[.int .i64 1, .int .i64 (x.clock + x.cfg.poll), .int .i64 j.number, .int .i64 j.task, .int .i64 j.deadline] 149) := ((Blk.new W11 #[.int .i64 1, .int .i64 (x.clock + x.cfg.poll), .int .i64 j.number, .int .i64 j.task, .int .i64 j.deadline] 149).alloc _).drew
          have HB13 : Hid (Blk ((W11.alloc (.cells #[.int .i64 1, .int .i64 (x.clock + x.cfg.poll), .int .i64 j.number, .int .i64 j.task, .int .i64 j.deadline] 149)).alloc (.cells #[.int .i64 2, .int .i64 (x.clock + x.cfg.poll + x.cfg.sw + j.cost), .int .i64 j.number, .int .i64 j.task, .int .i64 j.deadline] 149)).drew (W11.heap.size + 1) #[.int .i64 2, .int .i64 (x.clock + x.cfg.poll + x.cfg.sw + j.cost), .int .i64 j.number, .int .i64 j.task, .int .i64 j.deadline] 149) := by
            have := (Blk.new (W11.alloc (.cells #[.int .i64 1, .int .i64 (x.clock + x.cfg.poll), .int .i64 j.number, .int .i64 j.task, .int .i64 j.deadline] 149)) #[.int .i64 2, .int .i64 (x.clock + x.cfg.poll + x.cfg.sw + j.cost), .int .i64 j.number, .int .i64 j.task, .int .i64 j.deadline] 149).drew
            simpa [Hid] using this
          clear hb13 j0 j1 j2 v8'
          generalize ((W11.alloc (.cells #[.int .i64 1, .int .i64 (x.clock + x.cfg.poll), .int .i64 j.number, .int .i64 j.task, .int .i64 j.deadline] 149)).alloc (.cells #[.int .i64 2, .int .i64 (x.clock + x.cfg.poll + x.cfg.sw + j.cost), .int .i64 j.number, .int .i64 j.task, .int .i64 j.deadline] 149)).drew = W13 at *
          have a0 : W13.cell? ⟨W11.heap.size, 0, none⟩ = some (.int .i64 1) := HA13.out.cell 0
          have a1 : W13.cell? ⟨W11.heap.size, 1, none⟩ = some (.int .i64 (x.clock + x.cfg.poll)) := HA13.out.cell 1
          have a2 : W13.cell? ⟨W11.heap.size, 2, none⟩ = some (.int .i64 j.number) := HA13.out.cell 2
          have a3 : W13.cell? ⟨W11.heap.size, 3, none⟩ = some (.int .i64 j.task) := HA13.out.cell 3
          have a4 : W13.cell? ⟨W11.heap.size, 4, none⟩ = some (.int .i64 j.deadline) := HA13.out.cell 4
          have b0 : W13.cell? ⟨W11.heap.size + 1, 0, none⟩ = some (.int .i64 2) := HB13.out.cell 0
          have b1 : W13.cell? ⟨W11.heap.size + 1, 1, none⟩ = some (.int .i64 (x.clock + x.cfg.poll + x.cfg.sw + j.cost)) := HB13.out.cell 1
          have b2 : W13.cell? ⟨W11.heap.size + 1, 2, none⟩ = some (.int .i64 j.number) := HB13.out.cell 2
          have b3 : W13.cell? ⟨W11.heap.size + 1, 3, none⟩ = some (.int .i64 j.task) := HB13.out.cell 3
          have b4 : W13.cell? ⟨W11.heap.size + 1, 4, none⟩ = some (.int .i64 j.deadline) := HB13.out.cell 4
          have hal := HA13.out.lt
          have hbl := HB13.out.lt
          have hz13 : w.heap.size ≤ W13.heap.size := HP13.out.fr.size
          have hb14 : Below W13.heap.size W13 (W13.alloc (.cells #[.int .i64 1, .int .i64 (x.clock + x.cfg.poll), .int .i64 j.number, .int .i64 j.task, .int .i64 j.deadline, .int .i64 2, .int .i64 (x.clock + x.cfg.poll + x.cfg.sw + j.cost), .int .i64 j.number, .int .i64 j.task, .int .i64 j.deadline] 149)) := (Below.refl _ _).alloc (Nat.le_refl _) _
          have HB14 := hide hb14
          have HEV : Hid (EvP (W13.alloc (.cells #[.int .i64 1, .int .i64 (x.clock + x.cfg.poll), .int .i64 j.number, .int .i64 j.task, .int .i64 j.deadline, .int .i64 2, .int .i64 (x.clock + x.cfg.poll + x.cfg.sw + j.cost), .int .i64 j.number, .int .i64 j.task, .int .i64 j.deadline] 149)) w.heap.size (.slice oa out.length oc) out) := HP13.out.ev.later hb14
          have HWN := hide (win_new W13 w.heap.size 149 5 2 [.int .i64 1, .int .i64 (x.clock + x.cfg.poll), .int .i64 j.number, .int .i64 j.task, .int .i64 j.deadline, .int .i64 2, .int .i64 (x.clock + x.cfg.poll + x.cfg.sw + j.cost), .int .i64 j.number, .int .i64 j.task, .int .i64 j.deadline] rfl (by unfold maxLen; omega) hz13)
          have HONE : Hid (∀ u ∈ ([.int .i64 1, .int .i64 (x.clock + x.cfg.poll), .int .i64 j.number, .int .i64 j.task, .int .i64 j.deadline, .int .i64 2, .int .i64 (x.clock + x.cfg.poll + x.cfg.sw + j.cost), .int .i64 j.number, .int .i64 j.task, .int .i64 j.deadline] : List Value), u.oneCell' = true) := by
            intro u hu
            simp at hu
            rcases hu with rfl | rfl | rfl | rfl | rfl | rfl | rfl | rfl | rfl | rfl <;> rfl
          clear hb14
          go_wp2_with (at_builtin; go_must (refine wpList_appWin rfl _ _ 62 149 (.agg #[.int .i64 0, .int .i64 0, .int .i64 0, .int .i64 0, .int .i64 0]) 5 40 rfl Tryz.underlying62 info_ev rfl (by decide) (by decide) w.heap.size w.heap.size (.slice oa out.length oc) (.slice (some ⟨W13.heap.size, 0, none⟩) 2 2) out.length 2 (erow out) [.int .i64 1, .int .i64 (x.clock + x.cfg.poll), .int .i64 j.number, .int .i64 j.task, .int .i64 j.deadline, .int .i64 2, .int .i64 (x.clock + x.cfg.poll + x.cfg.sw + j.cost), .int .i64 j.number, .int .i64 j.task, .int .i64 j.deadline] rfl HEV.out rfl HWN.out HONE.out (by omega) (by first | omega | (simp; omega)) ?_))
          intro v15 w15 e15 g15 o15
          have he15 : EvP w15 w.heap.size v15 (out ++ [(⟨1, x.clock + x.cfg.poll, j.number, j.task, j.deadline⟩ : Ev), ⟨2, x.clock + x.cfg.poll + x.cfg.sw + j.cost, j.number, j.task, j.deadline⟩]) := by
            unfold EvP
            rw [erow_append, List.length_append]
            exact e15
          have hz14 : (W13.alloc (.cells #[.int .i64 1, .int .i64 (x.clock + x.cfg.poll), .int .i64 j.number, .int .i64 j.task, .int .i64 j.deadline, .int .i64 2, .int .i64 (x.clock + x.cfg.poll + x.cfg.sw + j.cost), .int .i64 j.number, .int .i64 j.task, .int .i64 j.deadline] 149)).heap.size = W13.heap.size + 1 := by simp
          have HP15 := hide (Rn2.outs HT.out HP13.out HB14.out g15 he15 (by rw [hz14]; simpa using o15))
          obtain ⟨fa, fc, hv15⟩ := ownsRow_slice e15
          subst hv15
          clear e15 g15 o15 he15 hz14
          go_wp2_with fail
          go_ret
          rw [HEX.out]
          exact ⟨_, rfl, HP15.out.ev, ⟨_, ⟨L, tv, _, lvs', HP15.out.rc⟩, HP15.out.sub, HP15.out.sep⟩, HP15.out.fr⟩
        · have HWD : Hid (Win w7 base 169 4 (.slice (some ⟨jg, (k + 1) * 4, none⟩) (y.jobs.length - (k + 1)) (jcap - (k + 1))) (y.jobs.length - (k + 1)) ((rjrow y.jobs).drop ((k + 1) * 4))) := by
            have := HW7.out.drop (k + 1) (jcap - (k + 1)) (by omega) (by omega) (by omega)
            rw [Nat.zero_add] at this
            exact this
          have HMK : Hid (k + (y.jobs.length - (k + 1)) = y.jobs.length - 1) := by rw [Hid]; omega
          go_wp2_with (at_builtin; go_must (refine wpList_appWin rfl _ _ 140 169 (.agg #[.int .i64 0, .int .i64 0, .int .i64 0, .int .i64 0]) 4 32 rfl Tryz.underlying140 info_rjob rfl (by decide) (by decide) W6.heap.size base (.slice ra k rc) (.slice (some ⟨jg, (k + 1) * 4, none⟩) (y.jobs.length - (k + 1)) (jcap - (k + 1))) k (y.jobs.length - (k + 1)) ((rjrow y.jobs).take (k * 4)) ((rjrow y.jobs).drop ((k + 1) * 4)) rfl HE7.out rfl HWD.out HO2.out (by omega) (by omega) ?_))
          intro v8 w8 e8 g8 o8
          have hb8 : Below W6.heap.size W6 w8 := HB7.out.trans (below_grownBy_new g8 (by omega) fun q e => (ownsRow_lt HE7.out e).1)
          have hrj : RJobP w8 W6.heap.size v8 (y.jobs.eraseIdx k) := by
            unfold RJobP
            rw [rj_erase, List.length_eraseIdx_of_lt hkl, ← HMK.out]
            exact e8
          obtain ⟨rb, rd, hv8⟩ := ownsRow_slice e8
          have HP9 := hide (HP6.out.jobs HSY.out hb8 hrj (by omega))
          have HJ8 := hide (HJ6.out.later hb8 (by omega))
          have hblk8 : Blk w8 Y _ _ := (hb8.block Y (by omega)).trans HP6.out.rc.blk
          have s7 : w8.cell? ⟨Y, 7, none⟩ = some (.slice (some ⟨jg, 0, none⟩) y.jobs.length jcap) := hblk8.cell 7
          have s7f := hblk8.free 7
          have hz8 := hb8.size
          have hY8 : Y < w8.heap.size := by omega
          have HJ9 := hide (HJ8.out.other (a := ⟨Y, 7, none⟩) (by show w5.heap.size ≠ Y; omega) v8)
          clear e8 g8 o8 hb8 hrj r7 r7f hblk8
          subst hv8
          go_upto_region 17 with (fail)
          generalize hW9 : w8.setCell ⟨Y, 7, none⟩ _ = W9 at *
          clear hW9 s7 s7f
          have t4 : W9.cell? ⟨Y, 4, none⟩ = some (.int .i64 x.cfg.sw) := by rw [← HMX.out.1]; exact HP9.out.rc.blk.cell 4
          have t8 : W9.cell? ⟨Y, 8, none⟩ = some (.int .i64 x.clock) := by rw [← HMX.out.2.1]; exact HP9.out.rc.blk.cell 8
          have t8f := HP9.out.rc.blk.free 8
          have tj3 : W9.cell? ⟨w5.heap.size, 3, none⟩ = some (.int .i64 j.cost) := HJ9.out.cell 3
          have hjl9 := HJ9.out.lt
          have hY9 := HP9.out.rc.blk.lt
          obtain ⟨jc1, jc2⟩ := hjcost
          have hwa : IntKind.i64.wrap (x.clock + x.cfg.poll + x.cfg.sw) = x.clock + x.cfg.poll + x.cfg.sw := IntWalk.i64_in _ ⟨by omega, by omega⟩
          have hwb : IntKind.i64.wrap (x.clock + x.cfg.poll + x.cfg.sw + j.cost) = x.clock + x.cfg.poll + x.cfg.sw + j.cost := IntWalk.i64_in _ ⟨by omega, by omega⟩
          go_region
          have hb10 : Below (W9.setCell ⟨Y, 8, none⟩ (.int .i64 (x.clock + x.cfg.poll + x.cfg.sw + j.cost))).heap.size (W9.setCell ⟨Y, 8, none⟩ (.int .i64 (x.clock + x.cfg.poll + x.cfg.sw + j.cost))) (W9.setCell ⟨Y, 8, none⟩ (.int .i64 (x.clock + x.cfg.poll + x.cfg.sw + j.cost))).drew := (Below.refl _ _).drew
          have HP10 := hide ((HP9.out.cell HSY.out 8 (.int .i64 (x.clock + x.cfg.poll + x.cfg.sw + j.cost)) (clock := x.clock + x.cfg.poll + x.cfg.sw + j.cost) (fed := y.fed) (ct := y.ct) rfl).below hb10)
          have HJ10 := hide (HJ9.out.other (a := ⟨Y, 8, none⟩) (by show w5.heap.size ≠ Y; omega) (.int .i64 (x.clock + x.cfg.poll + x.cfg.sw + j.cost))).drew
          generalize (W9.setCell ⟨Y, 8, none⟩ (.int .i64 (x.clock + x.cfg.poll + x.cfg.sw + j.cost))).drew = W10 at *
          have u12 : W10.cell? ⟨Y, 12, none⟩ = some (.int .i64 y.ct.done) := HP10.out.rc.blk.cell 12
          have u12f := HP10.out.rc.blk.free 12
          have hwd : IntKind.i64.wrap (y.ct.done + 1) = y.ct.done + 1 := IntWalk.i64_in _ ⟨by omega, by omega⟩
          have HP11 := hide (HP10.out.cell HSY.out 12 (.int .i64 (y.ct.done + 1)) (clock := x.clock + x.cfg.poll + x.cfg.sw + j.cost) (fed := y.fed) (ct := { y.ct with done := y.ct.done + 1 }) rfl)
          have HJ11 := hide (HJ10.out.other (a := ⟨Y, 12, none⟩) (by show w5.heap.size ≠ Y; omega) (.int .i64 (y.ct.done + 1)))
          have hY10 := HP10.out.rc.blk.lt
          have hj10 := HJ10.out.lt
          clear hb10 t4 t8 t8f tj3
          go_upto_region 19 with (fail)
          generalize W10.setCell ⟨Y, 12, none⟩ (.int .i64 (y.ct.done + 1)) = W11 at *
          have j0 : W11.cell? ⟨w5.heap.size, 0, none⟩ = some (.int .i64 j.number) := HJ11.out.cell 0
          have j1 : W11.cell? ⟨w5.heap.size, 1, none⟩ = some (.int .i64 j.task) := HJ11.out.cell 1
          have j2 : W11.cell? ⟨w5.heap.size, 2, none⟩ = some (.int .i64 j.deadline) := HJ11.out.cell 2
          have v8' : W11.cell? ⟨Y, 8, none⟩ = some (.int .i64 (x.clock + x.cfg.poll + x.cfg.sw + j.cost)) := HP11.out.rc.blk.cell 8
          have hY11 := HP11.out.rc.blk.lt
          have hj11 := HJ11.out.lt
          clear u12 u12f
          go_upto_region 20 with (fail)
          go_region
          have hb13 : Below W11.heap.size W11 ((W11.alloc (.cells #[.int .i64 1, .int .i64 (x.clock + x.cfg.poll), .int .i64 j.number, .int .i64 j.task, .int .i64 j.deadline] 149)).alloc (.cells #[.int .i64 2, .int .i64 (x.clock + x.cfg.poll + x.cfg.sw + j.cost), .int .i64 j.number, .int .i64 j.task, .int .i64 j.deadline] 149)).drew := (((Below.refl _ _).alloc (Nat.le_refl _) _).alloc (by simp) _).drew
          have HP13 := hide (HP11.out.below hb13)
          have HA13 : Hid (Blk ((W11.alloc (.cells #[.int .i64 1, .int .i64 (x.clock + x.cfg.poll), .int .i64 j.number, .int .i64 j.task, .int .i64 j.deadline] 149)).alloc (.cells #[.int .i64 2, .int .i64 (x.clock + x.cfg.poll + x.cfg.sw + j.cost), .int .i64 j.number, .int .i64 j.task, .int .i64 j.deadline] 149)).drew W11.heap.size #[.int .i64 1, .int .i64 (x.clock + x.cfg.poll), .int .i64 j.number, .int .i64 j.task, .int .i64 j.deadline] 149) := ((Blk.new W11 #[.int .i64 1, .int .i64 (x.clock + x.cfg.poll), .int .i64 j.number, .int .i64 j.task, .int .i64 j.deadline] 149).alloc _).drew
          have HB13 : Hid (Blk ((W11.alloc (.cells #[.int .i64 1, .int .i64 (x.clock + x.cfg.poll), .int .i64 j.number, .int .i64 j.task, .int .i64 j.deadline] 149)).alloc (.cells #[.int .i64 2, .int .i64 (x.clock + x.cfg.poll + x.cfg.sw + j.cost), .int .i64 j.number, .int .i64 j.task, .int .i64 j.deadline] 149)).drew (W11.heap.size + 1) #[.int .i64 2, .int .i64 (x.clock + x.cfg.poll + x.cfg.sw + j.cost), .int .i64 j.number, .int .i64 j.task, .int .i64 j.deadline] 149) := by
            have := (Blk.new (W11.alloc (.cells #[.int .i64 1, .int .i64 (x.clock + x.cfg.poll), .int .i64 j.number, .int .i64 j.task, .int .i64 j.deadline] 149)) #[.int .i64 2, .int .i64 (x.clock + x.cfg.poll + x.cfg.sw + j.cost), .int .i64 j.number, .int .i64 j.task, .int .i64 j.deadline] 149).drew
            simpa [Hid] using this
          clear hb13 j0 j1 j2 v8'
          generalize ((W11.alloc (.cells #[.int .i64 1, .int .i64 (x.clock + x.cfg.poll), .int .i64 j.number, .int .i64 j.task, .int .i64 j.deadline] 149)).alloc (.cells #[.int .i64 2, .int .i64 (x.clock + x.cfg.poll + x.cfg.sw + j.cost), .int .i64 j.number, .int .i64 j.task, .int .i64 j.deadline] 149)).drew = W13 at *
          have a0 : W13.cell? ⟨W11.heap.size, 0, none⟩ = some (.int .i64 1) := HA13.out.cell 0
          have a1 : W13.cell? ⟨W11.heap.size, 1, none⟩ = some (.int .i64 (x.clock + x.cfg.poll)) := HA13.out.cell 1
          have a2 : W13.cell? ⟨W11.heap.size, 2, none⟩ = some (.int .i64 j.number) := HA13.out.cell 2
          have a3 : W13.cell? ⟨W11.heap.size, 3, none⟩ = some (.int .i64 j.task) := HA13.out.cell 3
          have a4 : W13.cell? ⟨W11.heap.size, 4, none⟩ = some (.int .i64 j.deadline) := HA13.out.cell 4
          have b0 : W13.cell? ⟨W11.heap.size + 1, 0, none⟩ = some (.int .i64 2) := HB13.out.cell 0
          have b1 : W13.cell? ⟨W11.heap.size + 1, 1, none⟩ = some (.int .i64 (x.clock + x.cfg.poll + x.cfg.sw + j.cost)) := HB13.out.cell 1
          have b2 : W13.cell? ⟨W11.heap.size + 1, 2, none⟩ = some (.int .i64 j.number) := HB13.out.cell 2
          have b3 : W13.cell? ⟨W11.heap.size + 1, 3, none⟩ = some (.int .i64 j.task) := HB13.out.cell 3
          have b4 : W13.cell? ⟨W11.heap.size + 1, 4, none⟩ = some (.int .i64 j.deadline) := HB13.out.cell 4
          have hal := HA13.out.lt
          have hbl := HB13.out.lt
          have hz13 : w.heap.size ≤ W13.heap.size := HP13.out.fr.size
          have hb14 : Below W13.heap.size W13 (W13.alloc (.cells #[.int .i64 1, .int .i64 (x.clock + x.cfg.poll), .int .i64 j.number, .int .i64 j.task, .int .i64 j.deadline, .int .i64 2, .int .i64 (x.clock + x.cfg.poll + x.cfg.sw + j.cost), .int .i64 j.number, .int .i64 j.task, .int .i64 j.deadline] 149)) := (Below.refl _ _).alloc (Nat.le_refl _) _
          have HB14 := hide hb14
          have HEV : Hid (EvP (W13.alloc (.cells #[.int .i64 1, .int .i64 (x.clock + x.cfg.poll), .int .i64 j.number, .int .i64 j.task, .int .i64 j.deadline, .int .i64 2, .int .i64 (x.clock + x.cfg.poll + x.cfg.sw + j.cost), .int .i64 j.number, .int .i64 j.task, .int .i64 j.deadline] 149)) w.heap.size (.slice oa out.length oc) out) := HP13.out.ev.later hb14
          have HWN := hide (win_new W13 w.heap.size 149 5 2 [.int .i64 1, .int .i64 (x.clock + x.cfg.poll), .int .i64 j.number, .int .i64 j.task, .int .i64 j.deadline, .int .i64 2, .int .i64 (x.clock + x.cfg.poll + x.cfg.sw + j.cost), .int .i64 j.number, .int .i64 j.task, .int .i64 j.deadline] rfl (by unfold maxLen; omega) hz13)
          have HONE : Hid (∀ u ∈ ([.int .i64 1, .int .i64 (x.clock + x.cfg.poll), .int .i64 j.number, .int .i64 j.task, .int .i64 j.deadline, .int .i64 2, .int .i64 (x.clock + x.cfg.poll + x.cfg.sw + j.cost), .int .i64 j.number, .int .i64 j.task, .int .i64 j.deadline] : List Value), u.oneCell' = true) := by
            intro u hu
            simp at hu
            rcases hu with rfl | rfl | rfl | rfl | rfl | rfl | rfl | rfl | rfl | rfl <;> rfl
          clear hb14
          go_wp2_with (at_builtin; go_must (refine wpList_appWin rfl _ _ 62 149 (.agg #[.int .i64 0, .int .i64 0, .int .i64 0, .int .i64 0, .int .i64 0]) 5 40 rfl Tryz.underlying62 info_ev rfl (by decide) (by decide) w.heap.size w.heap.size (.slice oa out.length oc) (.slice (some ⟨W13.heap.size, 0, none⟩) 2 2) out.length 2 (erow out) [.int .i64 1, .int .i64 (x.clock + x.cfg.poll), .int .i64 j.number, .int .i64 j.task, .int .i64 j.deadline, .int .i64 2, .int .i64 (x.clock + x.cfg.poll + x.cfg.sw + j.cost), .int .i64 j.number, .int .i64 j.task, .int .i64 j.deadline] rfl HEV.out rfl HWN.out HONE.out (by omega) (by first | omega | (simp; omega)) ?_))
          intro v15 w15 e15 g15 o15
          have he15 : EvP w15 w.heap.size v15 (out ++ [(⟨1, x.clock + x.cfg.poll, j.number, j.task, j.deadline⟩ : Ev), ⟨2, x.clock + x.cfg.poll + x.cfg.sw + j.cost, j.number, j.task, j.deadline⟩]) := by
            unfold EvP
            rw [erow_append, List.length_append]
            exact e15
          have hz14 : (W13.alloc (.cells #[.int .i64 1, .int .i64 (x.clock + x.cfg.poll), .int .i64 j.number, .int .i64 j.task, .int .i64 j.deadline, .int .i64 2, .int .i64 (x.clock + x.cfg.poll + x.cfg.sw + j.cost), .int .i64 j.number, .int .i64 j.task, .int .i64 j.deadline] 149)).heap.size = W13.heap.size + 1 := by simp
          have HP15 := hide (Rn2.outs HT.out HP13.out HB14.out g15 he15 (by rw [hz14]; simpa using o15))
          obtain ⟨fa, fc, hv15⟩ := ownsRow_slice e15
          subst hv15
          clear e15 g15 o15 he15 hz14
          go_wp2_with fail
          go_ret
          rw [HEX.out]
          exact ⟨_, rfl, HP15.out.ev, ⟨_, ⟨L, tv, _, lvs', HP15.out.rc⟩, HP15.out.sub, HP15.out.sep⟩, HP15.out.fr⟩

end Go.Proofs.YthloffgebebijaaGreat
