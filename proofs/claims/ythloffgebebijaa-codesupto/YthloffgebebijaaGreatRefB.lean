/- RefB: the walk of the reference's Encode: it gives the same bytes as the program's. -/
import Derived.Test.YthloffgebebijaaGreatRefA
import Derived.Test.YthloffgebebijaaGreatBytesB
namespace Go.Proofs.YthloffgebebijaaGreat
open Go.RowKit

theorem sum_take_le (l : List Int) (h : ∀ x ∈ l, 0 ≤ x ∧ x < 256) (k : Nat) : 0 ≤ (l.take k).sum ∧ (l.take k).sum ≤ 255 * k := by
  induction k generalizing l with
  | zero => simp
  | succ k ih =>
    cases l with
    | nil => simp; omega
    | cons x r =>
      have := ih r (fun y hy => h y (by simp [hy]))
      have := h x (by simp)
      simp only [List.take_succ_cons, List.sum_cons]
      omega

set_option maxRecDepth 100000 in
set_option maxHeartbeats 1600000 in
theorem refEncode_yes (B : Nat) (v : Value) (c : Cfg) (w : World) (hv : Cf w B v c) (hB : B ≤ w.heap.size) (hok : cfgOk c = true) :
    Calls Tryz.prog 25 #[v] w fun e w' => ∃ v', e = .returned (.tuple #[v', .int .i64 0]) ∧ Own8 w' w.heap.size 5 v' (cfgBytes c) ∧ Below w.heap.size w w' := by
  have HV := hide hv
  obtain ⟨s, rfl, hs⟩ := hv
  have HBY := hide (cfgBytes0_byte hok)
  obtain ⟨h1, h2, h3, h4, h5, h6, h7⟩ := cfgOk_parts hok
  obtain ⟨lines, room, poll, idle, sw, ts⟩ := c
  simp only at h1 h2 h3 h4 h5 h6 h7 hs
  obtain ⟨h1, h1'⟩ := h1; obtain ⟨h2, h2'⟩ := h2; obtain ⟨h3, h3'⟩ := h3; obtain ⟨h4, h4'⟩ := h4; obtain ⟨h5, h5'⟩ := h5; obtain ⟨h6, h6'⟩ := h6
  obtain ⟨sa, scap, rfl, hs⟩ := hs
  rcases hs with rfl | ⟨sb, so, rfl, hsb, hc⟩
  · simp at h6
  have HC := hide hc
  have HA := hide h7
  have HOK := hide hok
  clear hc hok h7
  have hb0 : ∀ o, Below w.heap.size w (w.alloc o) := fun o => (Below.refl _ _).alloc (Nat.le_refl _) _
  generalize hn : ts.length = n at *
  have HN := hide hn
  clear hn
  go_enter Tryz.func25, Tryz.ntmps25
  go_wp2_with fail
  refine (refFits_any _ B ⟨lines, room, poll, idle, sw, ts⟩ _ (HV.out.later (hb0 _) hB) (by simp; omega)).mono ?_
  rintro e w1 ⟨rfl, q1⟩
  have HB1 := hide ((hb0 (.cells #[.int .i64 lines, .int .i64 room, .int .i64 poll, .int .i64 idle, .int .i64 sw, .slice (some ⟨sb, so, none⟩) n scap] 40)).trans (q1.mono (by simp)))
  have K1 := (Blk.new w #[.int .i64 lines, .int .i64 room, .int .i64 poll, .int .i64 idle, .int .i64 sw, .slice (some ⟨sb, so, none⟩) n scap] 40).later q1 (by simp)
  have HK1 := hide K1
  have x0 : w1.cell? ⟨w.heap.size, 0, none⟩ = some (.int .i64 lines) := K1.cell 0
  have x1 : w1.cell? ⟨w.heap.size, 1, none⟩ = some (.int .i64 room) := K1.cell 1
  have x2 : w1.cell? ⟨w.heap.size, 2, none⟩ = some (.int .i64 poll) := K1.cell 2
  have x3 : w1.cell? ⟨w.heap.size, 3, none⟩ = some (.int .i64 idle) := K1.cell 3
  have x4 : w1.cell? ⟨w.heap.size, 4, none⟩ = some (.int .i64 sw) := K1.cell 4
  have x5 : w1.cell? ⟨w.heap.size, 5, none⟩ = some (.slice (some ⟨sb, so, none⟩) n scap) := K1.cell 5
  have hz1 := K1.lt
  rw [HOK.out]
  clear q1 K1 HV hb0
  go_wp2_with fail
  go_loopw [5, 6] (fun b i wr => ∃ k : Nat, i = .int .i64 k ∧ k ≤ n ∧ Own8 wr w.heap.size 5 b ([84, lines, room, poll, idle, sw, (n : Int)] ++ (ts.take k).flatMap taskBytes) ∧ Below w.heap.size w wr ∧ Blk wr w.heap.size #[.int .i64 lines, .int .i64 room, .int .i64 poll, .int .i64 idle, .int .i64 sw, .slice (some ⟨sb, so, none⟩) n scap] 40) (fun _ i _ => n - (intOf i).toNat)
  case atStart =>
    refine ⟨0, rfl, Nat.zero_le _, ?_, HB1.out.alloc (by omega) _, HK1.out.alloc _⟩
    have := World.ownsRow_lit (base := w.heap.size) (e := 5) (size := 1) w1 #[.int .u8 84, .int .u8 lines, .int .u8 room, .int .u8 poll, .int .u8 idle, .int .u8 sw, .int .u8 n] 7 (by omega) (by unfold maxLen; omega) (by simp)
    simpa [Own8] using this
  case round =>
    obtain ⟨k, rfl, hk, ho, hq, hbk⟩ := hrel
    have hz := hq.size
    have y5 : wr.cell? ⟨w.heap.size, 5, none⟩ = some (.slice (some ⟨sb, so, none⟩) n scap) := hbk.cell 5
    have hzk := hbk.lt
    have HO := hide ho
    have HQ := hide hq
    have HBK := hide hbk
    clear ho hq hbk x0 x1 x2 x3 x4 x5
    by_cases hlt : k < n
    · obtain ⟨t, hl⟩ := get_of_lt (l := ts) (k := k) (by rw [HN.out]; exact hlt)
      obtain ⟨d0, d1, s, d2, hs⟩ := (HC.out k _ hl).later HQ.out hB (by omega)
      have hto := List.all_eq_true.1 HA.out t (List.mem_of_getElem? hl)
      have HT := hide (take_snoc hl)
      have HLN := hide (flat_len (all_take HA.out k))
      obtain ⟨cost, due, ls⟩ := t
      simp only [taskOk, limsOk, Bool.and_eq_true, decide_eq_true_eq] at hto
      obtain ⟨⟨k1, k2⟩, ⟨k3, k4⟩, ⟨k5, k6⟩, k7⟩ := hto
      simp only at d0 d1 hs
      have HVL := hide (vl_bounds k7 (by decide) (by decide))
      obtain ⟨ta, tcap, rfl, hs⟩ := hs
      rcases hs with rfl | ⟨tb, to, rfl, htb, htc⟩
      · simp at k5
      have HTC := hide htc
      clear hl k7 htc
      generalize hm : ls.length = m at *
      have HM := hide hm
      clear hm
      obtain ⟨W0, hW0⟩ : ∃ W, W = wr := ⟨_, rfl⟩
      subst hW0
      have HTB := hide (Blk.new W0 #[.int .i64 cost, .int .i64 due, .slice (some ⟨tb, to, none⟩) m tcap] 55)
      have hlen : ([84, lines, room, poll, idle, sw, (n : Int)] ++ (ts.take k).flatMap taskBytes).length ≤ 100 := by
        have := HLN.out; rw [List.length_take] at this; simp only [List.length_append, List.length_cons, List.length_nil]; omega
      generalize hbs : [84, lines, room, poll, idle, sw, (n : Int)] ++ (ts.take k).flatMap taskBytes = bs at *
      have HBS := hide hbs
      clear hbs
      have hsw : sb < W0.heap.size := by omega
      go_wp2_with (at_builtin; go_must (refine wpList_app8 rfl _ _ rfl w.heap.size _ bs [cost, due / 256, due % 256, (m : Int)] rfl ((HO.out.alloc _).alloc _) _ _ _ rfl rfl (new_cells _ _ _ _ (by simp)) ?_ ?_ ?_))
      · simp; omega
      · simp; omega
      intro v3 w3 o3 q3
      have HO3 := hide o3
      have HK3 := hide ((((KeepBut.new (e := 5) (B := w.heap.size) W0 (.cells #[.int .i64 cost, .int .i64 due, .slice (some ⟨tb, to, none⟩) m tcap] 55))).trans (KeepBut.new _ _)).trans q3)
      have HT3 := hide ((HTB.out.alloc _).kept q3 (by decide))
      clear o3 q3 HTB d0 d1 d2 y5
      have z2 : w3.cell? ⟨W0.heap.size, 2, none⟩ = some (.slice (some ⟨tb, to, none⟩) m tcap) := HT3.out.cell 2
      have hzt := HT3.out.lt
      go_wp2_with fail
      go_loopw [5, 8] (fun b j wr => ∃ q : Nat, j = .int .i64 q ∧ q ≤ m ∧ Own8 wr w.heap.size 5 b (bs ++ [cost, due / 256, due % 256, (m : Int)] ++ limBytes (ls.take q)) ∧ KeepBut 5 w.heap.size W0 wr ∧ Blk wr W0.heap.size #[.int .i64 cost, .int .i64 due, .slice (some ⟨tb, to, none⟩) m tcap] 55) (fun _ j _ => m - (intOf j).toNat)
      case atStart => exact ⟨0, rfl, Nat.zero_le _, by simpa [limBytes] using HO3.out, HK3.out, HT3.out⟩
      case round =>
        obtain ⟨q, rfl, hq, ho, hkb, hbt⟩ := hrel
        have hzq := hbt.lt
        have z2' : wr.cell? ⟨W0.heap.size, 2, none⟩ = some (.slice (some ⟨tb, to, none⟩) m tcap) := hbt.cell 2
        have HOq := hide ho
        have HKq := hide hkb
        have HTq := hide hbt
        clear ho hkb hbt z2
        by_cases hlt2 : q < m
        · obtain ⟨⟨l1, l2⟩, hl⟩ := get_of_lt (l := ls) (k := q) (by rw [HM.out]; exact hlt2)
          obtain ⟨e0, e1⟩ := (HTC.out q _ hl).later (HKq.out.below hz) (by omega)
          obtain ⟨m1, m2, m3, m4⟩ := HVL.out _ (List.mem_of_getElem? hl)
          simp only at e0 e1 m1 m2 m3 m4
          have HTT := hide (take_snoc hl)
          have hln : (limBytes (ls.take q)).length ≤ 9 := by rw [limBytes_length, List.length_take]; omega
          have htw : tb < wr.heap.size := by omega
          clear hl
          go_wp2_with (at_builtin; go_must (refine wpList_app8 rfl _ _ rfl w.heap.size _ _ [l1 / 256, l1 % 256, l2] rfl ((HOq.out.alloc _).alloc _) _ _ _ rfl rfl (new_cells _ _ _ _ (by simp)) ?_ ?_ ?_))
          · simp; omega
          · simp; omega
          intro v5 w5 o5 q5
          have HO5 := hide o5
          have HK5 := hide (HKq.out.trans (((KeepBut.new _ _).trans (KeepBut.new _ _)).trans q5))
          have HT5 := hide (((HTq.out.alloc _).alloc _).kept q5 (by decide))
          clear o5 q5 e0 e1 z2'
          go_wp2
          go_roundw
          case rel =>
            refine ⟨q + 1, by go_num, by omega, ?_, HK5.out, HT5.out⟩
            have := HO5.out
            rw [HTT.out, limBytes_snoc]
            simpa [List.append_assoc] using this
          case measure => simp [intOf]; omega
        · go_wp2
          go_roundw
          case rel =>
            refine ⟨k + 1, by go_num, by omega, ?_, HQ.out.trans (HKq.out.below hz), HBK.out.kept HKq.out (by decide)⟩
            have := HOq.out
            rw [List.take_of_length_le (by rw [HM.out]; omega)] at this
            rw [HT.out, List.flatMap_append, ← List.append_assoc, HBS.out]
            simpa [taskBytes, HM.out, List.append_assoc] using this
          case measure => simp [intOf]; omega
    · have ho := HO.out
      rw [List.take_of_length_le (by rw [HN.out]; omega)] at ho
      have HE : Hid (cfgBytes0 ⟨lines, room, poll, idle, sw, ts⟩ = [84, lines, room, poll, idle, sw, (n : Int)] ++ ts.flatMap taskBytes) := by simp only [Hid, cfgBytes0, head7, HN.out]
      rw [← HE.out] at ho
      have HCB : Hid (cfgBytes ⟨lines, room, poll, idle, sw, ts⟩ = cfgBytes0 ⟨lines, room, poll, idle, sw, ts⟩ ++ [(-(bsum (cfgBytes0 ⟨lines, room, poll, idle, sw, ts⟩))) % 256]) := rfl
      have hl0 : (cfgBytes0 ⟨lines, room, poll, idle, sw, ts⟩).length ≤ 100 := by have := flat_len HA.out; rw [HN.out] at this; rw [HE.out]; simp only [List.length_append, List.length_cons, List.length_nil]; omega
      clear HO HE
      generalize hbs : cfgBytes0 ⟨lines, room, poll, idle, sw, ts⟩ = bs at *
      clear hbs
      have HO := hide ho
      obtain ⟨ba, bcap, rfl, hcap, hrd⟩ := ho.rd
      generalize hN : bs.length = N at *
      have HNN := hide hN
      have HRD := hide hrd
      clear ho hN hrd
      go_wp2_with fail
      go_loop [10, 11] (fun s i => ∃ q : Nat, i = .int .i64 q ∧ q ≤ N ∧ s = .int .i64 (bs.take q).sum) (fun _ i => N - (intOf i).toNat)
      case atStart => exact ⟨0, rfl, Nat.zero_le _, by simp⟩
      case round =>
        obtain ⟨q, rfl, hq, rfl⟩ := hrel
        have hsum := sum_take_le bs HBY.out q
        obtain ⟨hs0, hs1⟩ := hsum
        by_cases hlt2 : q < N
        · obtain ⟨x, hl⟩ := get_of_lt (l := bs) (k := q) (by rw [HNN.out]; exact hlt2)
          obtain ⟨e0, e1⟩ := HBY.out x (List.mem_of_getElem? hl)
          rcases HRD.out with he | ⟨b, o, rfl, hlb, hcc⟩
          · rw [he] at hl; simp at hl
          have d0 := hcc q x hl
          have HTT := hide (take_snoc hl)
          clear hcc hl
          generalize hS : (bs.take q).sum = S at *
          have HSS := hide hS
          clear hS
          go_wp2
          go_round
          case rel =>
            refine ⟨q + 1, by go_num, by omega, ?_⟩
            rw [HTT.out, List.sum_append, HSS.out]; simp
          case measure => simp [intOf]; omega
        · rw [List.take_of_length_le (by rw [HNN.out]; omega)] at hs0 hs1 ⊢
          have HBQ : Hid ((-(bsum bs)) % 256 = -(bs.sum % 256) % 256) := rfl
          generalize hS : bs.sum = S at *
          have HSS := hide hS
          clear hS
          go_wp2_with (at_builtin; go_must (refine wpList_app8 rfl _ _ rfl w.heap.size _ bs [-(S % 256) % 256] rfl (HO.out.alloc _) _ _ _ rfl rfl (new_cells _ _ _ _ rfl) ?_ ?_ ?_))
          · have := HNN.out; omega
          · first | omega | (simp; omega)
          intro v5 w5 o5 q5
          have HO5 := hide o5
          have HQ5 := hide ((HQ.out.alloc hz _).trans (q5.below (by simp; omega)))
          clear o5 q5
          go_wp2
          go_ret2
          exact ⟨_, rfl, by rw [HCB.out, HBQ.out]; exact HO5.out, HQ5.out⟩

set_option maxHeartbeats 400000 in
theorem refEncode_no (B : Nat) (v : Value) (c : Cfg) (w : World) (hv : Cf w B v c) (hB : B ≤ w.heap.size) (hok : cfgOk c = false) :
    Calls Tryz.prog 25 #[v] w fun e w' => e = .returned (.tuple #[.slice none 0 0, .int .i64 1]) ∧ Below w.heap.size w w' := by
  have HV := hide hv
  obtain ⟨s, rfl, hs⟩ := hv
  obtain ⟨sa, scap, rfl⟩ := hs.slice
  clear hs
  have hb0 : ∀ o, Below w.heap.size w (w.alloc o) := fun o => (Below.refl _ _).alloc (Nat.le_refl _) _
  go_enter Tryz.func25, Tryz.ntmps25
  go_wp2_with fail
  refine (refFits_any _ B c _ (HV.out.later (hb0 _) hB) (by simp; omega)).mono ?_
  rintro e w1 ⟨rfl, q1⟩
  have HQ := hide ((hb0 _).trans (q1.mono (by simp)))
  clear q1 HV
  rw [hok]
  go_wp2
  go_ret2
  exact ⟨rfl, HQ.out⟩

end Go.Proofs.YthloffgebebijaaGreat
