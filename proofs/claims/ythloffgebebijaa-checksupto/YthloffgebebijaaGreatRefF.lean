/- RefF: the walks of the reference's longest and demand: they answer the plain numbers. -/
import Derived.Test.YthloffgebebijaaGreatRefE
import Derived.Deep.RegionHeld3
namespace Go.Proofs.YthloffgebebijaaGreat
open Go.RowKit

set_option maxRecDepth 100000 in
set_option maxHeartbeats 1600000 in
theorem rLongest_any (B : Nat) (v : Value) (c : Cfg) (w : World) (hv : Cf w B v c) (hB : B ≤ w.heap.size) (hc : CfIn c) :
    Calls Tryz.prog 63 #[v] w fun e w' => e = .returned (.int .i64 (longestI c)) ∧ Below w.heap.size w w' := by
  have HCI := hide hc
  have HLT := hide (fun k => longest_take hc k)
  have HE : Hid (longestI c = c.tasks.foldl (fun m t => max m (priceI c t)) (c.poll + c.idle)) := rfl
  obtain ⟨s, rfl, sa, scap, rfl, hs⟩ := hv
  obtain ⟨x1, x2, x3, x4, x5, ts⟩ := c
  have h1 := hc.p1; have h2 := hc.p2; have h3 := hc.i1; have h4 := hc.i2; have h5 := hc.s1; have h6 := hc.s2; have hn := hc.n2
  simp only at hs h1 h2 h3 h4 h5 h6 hn HLT HE ⊢
  have HC := hide hs
  generalize hN : ts.length = n at *
  have HN := hide hN
  have HB1 : Hid (Below w.heap.size w (w.alloc (.cells #[.int .i64 x1, .int .i64 x2, .int .i64 x3, .int .i64 x4, .int .i64 x5, .slice sa n scap] 40))) := (Below.refl _ _).alloc (Nat.le_refl _) _
  have HK1 := hide (Blk.new w #[.int .i64 x1, .int .i64 x2, .int .i64 x3, .int .i64 x4, .int .i64 x5, .slice sa n scap] 40)
  clear hN hs hc
  go_enter Tryz.func63, Tryz.ntmps63
  go_wp2_with fail
  go_loopw [3, 4] (fun m i wr => ∃ q : Nat, i = .int .i64 q ∧ q ≤ n ∧ m = .int .i64 ((ts.take q).foldl (fun m t => max m (priceI ⟨x1, x2, x3, x4, x5, ts⟩ t)) (x3 + x4)) ∧ Below w.heap.size w wr ∧ Blk wr w.heap.size #[.int .i64 x1, .int .i64 x2, .int .i64 x3, .int .i64 x4, .int .i64 x5, .slice sa n scap] 40) (fun _ i _ => n - (intOf i).toNat)
  case atStart => exact ⟨0, rfl, Nat.zero_le _, by simp, HB1.out, HK1.out⟩
  case round =>
    obtain ⟨q, rfl, hq, rfl, hbe, hk⟩ := hrel
    have HBE := hide hbe
    have HK := hide hk
    have hsz := hbe.size
    have hzk := hk.lt
    obtain ⟨hm0, hm1⟩ := HLT.out q
    have k5 : wr.cell? ⟨w.heap.size, 5, none⟩ = some (.slice sa n scap) := hk.cell 5
    clear hbe hk
    by_cases hlt : q < n
    · obtain ⟨t, hg⟩ := get_of_lt (l := ts) (k := q) (by rw [HN.out]; exact hlt)
      have hti := HCI.out.ts t (List.mem_of_getElem? hg)
      rcases HC.out with he | ⟨sb, so, rfl, hsb, hsc⟩
      · rw [he] at hg; simp at hg
      obtain ⟨k6, k7, sl, k8, hls⟩ := (hsc q _ hg).later HBE.out hB (by omega)
      have HTK := hide (take_snoc hg)
      have ht1 := hti.c1; have ht2 := hti.c2
      obtain ⟨cost, due, lims⟩ := t
      simp only at k6 k7 ht1 ht2
      obtain ⟨la, lc, rfl, _⟩ := hls
      have hqi : (q : Int) < (n : Int) := by omega
      have hsbw : sb < wr.heap.size := by omega
      generalize hM : (ts.take q).foldl (fun m t => max m (priceI ⟨x1, x2, x3, x4, x5, ts⟩ t)) (x3 + x4) = M at *
      have HMM := hide hM
      have HPR := hide (fun w' => rPrice_any x1 x2 x3 x4 x5 (.slice (some ⟨sb, so, none⟩) n scap) (.slice la lims.length lc) cost due w' ⟨h1, h2⟩ ⟨h5, h6⟩ ⟨ht1, ht2⟩ _ _ _ _ _ _ rfl rfl)
      have k0 : wr.cell? ⟨w.heap.size, 0, none⟩ = some (.int .i64 x1) := HK.out.cell 0
      have k1 : wr.cell? ⟨w.heap.size, 1, none⟩ = some (.int .i64 x2) := HK.out.cell 1
      have k2 : wr.cell? ⟨w.heap.size, 2, none⟩ = some (.int .i64 x3) := HK.out.cell 2
      have k3 : wr.cell? ⟨w.heap.size, 3, none⟩ = some (.int .i64 x4) := HK.out.cell 3
      have k4 : wr.cell? ⟨w.heap.size, 4, none⟩ = some (.int .i64 x5) := HK.out.cell 4
      clear hg hM hsc
      go_wp2_with fail
      go_region_held3 (fun w' => w'.cell? ⟨w.heap.size, 0, none⟩ = some (.int .i64 x1) ∧ w'.cell? ⟨w.heap.size, 1, none⟩ = some (.int .i64 x2) ∧ w'.cell? ⟨w.heap.size, 2, none⟩ = some (.int .i64 x3) ∧ w'.cell? ⟨w.heap.size, 3, none⟩ = some (.int .i64 x4) ∧ w'.cell? ⟨w.heap.size, 4, none⟩ = some (.int .i64 x5) ∧ w'.cell? ⟨w.heap.size, 5, none⟩ = some (.slice (some ⟨sb, so, none⟩) n scap) ∧ w'.cell? ⟨sb, so + q * 3, none⟩ = some (.int .i64 cost) ∧ w'.cell? ⟨sb, so + q * 3 + 1, none⟩ = some (.int .i64 due) ∧ w'.cell? ⟨sb, so + q * 3 + 2, none⟩ = some (.slice la lims.length lc)) (first | exact ⟨k0, k1, k2, k3, k4, k5, k6, k7, k8⟩ | exact ⟨z0, z1, z2, z3, z4, z5, z6, z7, z8⟩)
        (first | (go_at_call 85; refine (HPR.out wr.drew).mono ?_; rintro e w3 ⟨rfl, b3⟩; have z0 := (b3.cell (p := ⟨w.heap.size, 0, none⟩) (by simp; omega)).trans k0; have z1 := (b3.cell (p := ⟨w.heap.size, 1, none⟩) (by simp; omega)).trans k1; have z2 := (b3.cell (p := ⟨w.heap.size, 2, none⟩) (by simp; omega)).trans k2; have z3 := (b3.cell (p := ⟨w.heap.size, 3, none⟩) (by simp; omega)).trans k3; have z4 := (b3.cell (p := ⟨w.heap.size, 4, none⟩) (by simp; omega)).trans k4; have z5 := (b3.cell (p := ⟨w.heap.size, 5, none⟩) (by simp; omega)).trans k5; have z6 := (b3.cell (p := ⟨sb, so + q * 3, none⟩) (by simp; omega)).trans k6; have z7 := (b3.cell (p := ⟨sb, so + q * 3 + 1, none⟩) (by simp; omega)).trans k7; have z8 := (b3.cell (p := ⟨sb, so + q * 3 + 2, none⟩) (by simp; omega)).trans k8; have Hb3 := hide b3; have hzb3 : wr.heap.size ≤ w3.heap.size := b3.size; clear b3))
      have HBF : Hid (Below w.heap.size w w3) := HBE.out.trans ((undrewB Hb3.out).mono hsz)
      have HKF := hide (HK.out.later (undrewB Hb3.out) (by omega))
      go_wp2
      go_roundw
      case rel =>
        refine ⟨q + 1, by go_num, by omega, ?_, HBF.out, HKF.out⟩
        rw [HTK.out, List.foldl_append, HMM.out]
        show Value.int .i64 _ = Value.int .i64 (max M (x3 + x5 + cost))
        congr 1
        try (split <;> omega)
      case measure => simp [intOf]; omega
    · have hqi : ¬ (q : Int) < (n : Int) := by omega
      rw [List.take_of_length_le (by rw [HN.out]; omega)]
      go_wp2
      go_ret
      exact ⟨ret_int HE.out.symm, HBE.out⟩

set_option maxRecDepth 100000 in
set_option maxHeartbeats 1600000 in
theorem rDemand_any (B : Nat) (v : Value) (c : Cfg) (nn : Int) (w : World) (hv : Cf w B v c) (hB : B ≤ w.heap.size) (hc : CfIn c) (hn0 : 0 ≤ nn) (hn1 : nn ≤ 1400) :
    Calls Tryz.prog 64 #[v, .int .i64 nn] w fun e w' => e = .returned (.int .i64 (demandI c nn)) ∧ Below w.heap.size w w' := by
  have HCI := hide hc
  have HLT := hide (fun k => demand_take hc hn1 k)
  have HTM : Hid (∀ t, TkIn t → 0 ≤ mostI t (nn - t.due) * priceI c t ∧ mostI t (nn - t.due) * priceI c t ≤ 1800 * 1400) := fun t ht => term_bounds hc ht (by have := ht.d1; omega) (by decide)
  have HE : Hid (demandI c nn = c.tasks.foldl (fun s t => s + mostI t (nn - t.due) * priceI c t) 0) := rfl
  obtain ⟨s, rfl, sa, scap, rfl, hs⟩ := hv
  obtain ⟨x1, x2, x3, x4, x5, ts⟩ := c
  have h1 := hc.p1; have h2 := hc.p2; have h5 := hc.s1; have h6 := hc.s2; have hn := hc.n2
  simp only at hs h1 h2 h5 h6 hn HLT HE HTM ⊢
  have HC := hide hs
  generalize hN : ts.length = n at *
  have HN := hide hN
  have HB1 : Hid (Below w.heap.size w (w.alloc (.cells #[.int .i64 x1, .int .i64 x2, .int .i64 x3, .int .i64 x4, .int .i64 x5, .slice sa n scap] 40))) := (Below.refl _ _).alloc (Nat.le_refl _) _
  have HK1 := hide (Blk.new w #[.int .i64 x1, .int .i64 x2, .int .i64 x3, .int .i64 x4, .int .i64 x5, .slice sa n scap] 40)
  clear hN hs hc
  go_enter Tryz.func64, Tryz.ntmps64
  go_wp2_with fail
  go_loopw [5, 6] (fun m i wr => ∃ q : Nat, i = .int .i64 q ∧ q ≤ n ∧ m = .int .i64 ((ts.take q).foldl (fun s t => s + mostI t (nn - t.due) * priceI ⟨x1, x2, x3, x4, x5, ts⟩ t) 0) ∧ Below w.heap.size w wr ∧ Blk wr w.heap.size #[.int .i64 x1, .int .i64 x2, .int .i64 x3, .int .i64 x4, .int .i64 x5, .slice sa n scap] 40) (fun _ i _ => n - (intOf i).toNat)
  case atStart => exact ⟨0, rfl, Nat.zero_le _, by simp, HB1.out, HK1.out⟩
  case round =>
    obtain ⟨q, rfl, hq, rfl, hbe, hk⟩ := hrel
    have HBE := hide hbe
    have HK := hide hk
    have hsz := hbe.size
    have hzk := hk.lt
    obtain ⟨hm0, hm1⟩ := HLT.out q
    have k5 : wr.cell? ⟨w.heap.size, 5, none⟩ = some (.slice sa n scap) := hk.cell 5
    clear hbe hk
    by_cases hlt : q < n
    · obtain ⟨t, hg⟩ := get_of_lt (l := ts) (k := q) (by rw [HN.out]; exact hlt)
      have hti := HCI.out.ts t (List.mem_of_getElem? hg)
      have HTI := hide hti
      rcases HC.out with he | ⟨sb, so, rfl, hsb, hsc⟩
      · rw [he] at hg; simp at hg
      obtain ⟨k6, k7, sl, k8, hls⟩ := (hsc q _ hg).later HBE.out hB (by omega)
      have HTK := hide (take_snoc hg)
      have ht1 := hti.c1; have ht2 := hti.c2; have ht3 := hti.d1; have ht4 := hti.d2
      obtain ⟨htm0, htm1⟩ := HTM.out t hti
      have hmb := most_bounds hti.ls (k := nn - t.due) (K := 1400) (by omega) (by decide)
      obtain ⟨hmb0, hmb1⟩ := hmb
      obtain ⟨cost, due, lims⟩ := t
      simp only at k6 k7 ht1 ht2 ht3 ht4 hls hmb0 hmb1
      have HLC := hide hls
      obtain ⟨la, lc, rfl, _⟩ := hls
      have hqi : (q : Int) < (n : Int) := by omega
      have hsbw : sb < wr.heap.size := by omega
      have HPE : Hid (priceI ⟨x1, x2, x3, x4, x5, ts⟩ ⟨cost, due, lims⟩ = x3 + x5 + cost) := rfl
      have HMO := hide (fun (w' : World) (hb' : Below wr.heap.size wr w') => rMost_any B (.agg #[.int .i64 cost, .int .i64 due, .slice la lims.length lc]) ⟨cost, due, lims⟩ (nn - due) w' ⟨_, rfl, HLC.out.later hb' (by omega)⟩ (by have := hb'.size; omega) HTI.out (by omega) (by omega))
      have HPR := hide (fun w' => rPrice_any x1 x2 x3 x4 x5 (.slice (some ⟨sb, so, none⟩) n scap) (.slice la lims.length lc) cost due w' ⟨h1, h2⟩ ⟨h5, h6⟩ ⟨ht1, ht2⟩ _ _ _ _ _ _ rfl rfl)
      rw [HPE.out] at htm0 htm1
      generalize hS : (ts.take q).foldl (fun s t => s + mostI t (nn - t.due) * priceI ⟨x1, x2, x3, x4, x5, ts⟩ t) 0 = Sm at *
      generalize hM : mostI ⟨cost, due, lims⟩ (nn - due) = M at *
      have HSS := hide hS
      have HMM := hide hM
      have we0 : IntKind.i64.wrap (nn - due) = nn - due := IntWalk.i64_in _ ⟨by omega, by omega⟩
      have we1 : IntKind.i64.wrap (M * (x3 + x5 + cost)) = M * (x3 + x5 + cost) := IntWalk.i64_in _ ⟨by omega, by omega⟩
      have we2 : IntKind.i64.wrap (Sm + M * (x3 + x5 + cost)) = Sm + M * (x3 + x5 + cost) := IntWalk.i64_in _ ⟨by omega, by omega⟩
      have k0 : wr.cell? ⟨w.heap.size, 0, none⟩ = some (.int .i64 x1) := HK.out.cell 0
      have k1 : wr.cell? ⟨w.heap.size, 1, none⟩ = some (.int .i64 x2) := HK.out.cell 1
      have k2 : wr.cell? ⟨w.heap.size, 2, none⟩ = some (.int .i64 x3) := HK.out.cell 2
      have k3 : wr.cell? ⟨w.heap.size, 3, none⟩ = some (.int .i64 x4) := HK.out.cell 3
      have k4 : wr.cell? ⟨w.heap.size, 4, none⟩ = some (.int .i64 x5) := HK.out.cell 4
      have HDR : Hid (Below wr.heap.size wr wr.drew) := (Below.refl _ _).drew
      clear hg hM hS hsc
      go_wp2_with fail
      go_region_held3 (fun w' => w'.cell? ⟨w.heap.size, 0, none⟩ = some (.int .i64 x1) ∧ w'.cell? ⟨w.heap.size, 1, none⟩ = some (.int .i64 x2) ∧ w'.cell? ⟨w.heap.size, 2, none⟩ = some (.int .i64 x3) ∧ w'.cell? ⟨w.heap.size, 3, none⟩ = some (.int .i64 x4) ∧ w'.cell? ⟨w.heap.size, 4, none⟩ = some (.int .i64 x5) ∧ w'.cell? ⟨w.heap.size, 5, none⟩ = some (.slice (some ⟨sb, so, none⟩) n scap) ∧ w'.cell? ⟨sb, so + q * 3, none⟩ = some (.int .i64 cost) ∧ w'.cell? ⟨sb, so + q * 3 + 1, none⟩ = some (.int .i64 due) ∧ w'.cell? ⟨sb, so + q * 3 + 2, none⟩ = some (.slice la lims.length lc)) (first | exact ⟨k0, k1, k2, k3, k4, k5, k6, k7, k8⟩ | exact ⟨z0, z1, z2, z3, z4, z5, z6, z7, z8⟩)
        (first | (go_at_call 65; refine (HMO.out wr.drew HDR.out).mono ?_; rintro e w3 ⟨rfl, b3⟩; have z0 := (b3.cell (p := ⟨w.heap.size, 0, none⟩) (by simp; omega)).trans k0; have z1 := (b3.cell (p := ⟨w.heap.size, 1, none⟩) (by simp; omega)).trans k1; have z2 := (b3.cell (p := ⟨w.heap.size, 2, none⟩) (by simp; omega)).trans k2; have z3 := (b3.cell (p := ⟨w.heap.size, 3, none⟩) (by simp; omega)).trans k3; have z4 := (b3.cell (p := ⟨w.heap.size, 4, none⟩) (by simp; omega)).trans k4; have z5 := (b3.cell (p := ⟨w.heap.size, 5, none⟩) (by simp; omega)).trans k5; have z6 := (b3.cell (p := ⟨sb, so + q * 3, none⟩) (by simp; omega)).trans k6; have z7 := (b3.cell (p := ⟨sb, so + q * 3 + 1, none⟩) (by simp; omega)).trans k7; have z8 := (b3.cell (p := ⟨sb, so + q * 3 + 2, none⟩) (by simp; omega)).trans k8; have Hb3 := hide b3; have hzb3 : wr.heap.size ≤ w3.heap.size := b3.size; clear b3))
      clear k0 k1 k2 k3 k4 k5 k6 k7 k8
      go_wp2_with fail
      go_region_held3 (fun w' => w'.cell? ⟨w.heap.size, 0, none⟩ = some (.int .i64 x1) ∧ w'.cell? ⟨w.heap.size, 1, none⟩ = some (.int .i64 x2) ∧ w'.cell? ⟨w.heap.size, 2, none⟩ = some (.int .i64 x3) ∧ w'.cell? ⟨w.heap.size, 3, none⟩ = some (.int .i64 x4) ∧ w'.cell? ⟨w.heap.size, 4, none⟩ = some (.int .i64 x5) ∧ w'.cell? ⟨w.heap.size, 5, none⟩ = some (.slice (some ⟨sb, so, none⟩) n scap) ∧ w'.cell? ⟨sb, so + q * 3, none⟩ = some (.int .i64 cost) ∧ w'.cell? ⟨sb, so + q * 3 + 1, none⟩ = some (.int .i64 due) ∧ w'.cell? ⟨sb, so + q * 3 + 2, none⟩ = some (.slice la lims.length lc)) (first | exact ⟨z0, z1, z2, z3, z4, z5, z6, z7, z8⟩ | exact ⟨u0, u1, u2, u3, u4, u5, u6, u7, u8⟩)
        (first | (go_at_call 85; refine (HPR.out w3.drew).mono ?_; rintro e w4 ⟨rfl, b4⟩; have u0 := (b4.cell (p := ⟨w.heap.size, 0, none⟩) (by simp; omega)).trans z0; have u1 := (b4.cell (p := ⟨w.heap.size, 1, none⟩) (by simp; omega)).trans z1; have u2 := (b4.cell (p := ⟨w.heap.size, 2, none⟩) (by simp; omega)).trans z2; have u3 := (b4.cell (p := ⟨w.heap.size, 3, none⟩) (by simp; omega)).trans z3; have u4 := (b4.cell (p := ⟨w.heap.size, 4, none⟩) (by simp; omega)).trans z4; have u5 := (b4.cell (p := ⟨w.heap.size, 5, none⟩) (by simp; omega)).trans z5; have u6 := (b4.cell (p := ⟨sb, so + q * 3, none⟩) (by simp; omega)).trans z6; have u7 := (b4.cell (p := ⟨sb, so + q * 3 + 1, none⟩) (by simp; omega)).trans z7; have u8 := (b4.cell (p := ⟨sb, so + q * 3 + 2, none⟩) (by simp; omega)).trans z8; have Hb4 := hide b4; have hzb4 : w3.heap.size ≤ w4.heap.size := b4.size; clear b4))
      have HBW : Hid (Below wr.heap.size wr w4) := (undrewB Hb3.out).trans ((undrewB Hb4.out).mono hzb3)
      have HBF : Hid (Below w.heap.size w w4) := HBE.out.trans (HBW.out.mono hsz)
      have HKF := hide (HK.out.later HBW.out (by omega))
      go_wp2
      go_roundw
      case rel =>
        refine ⟨q + 1, by go_num, by omega, ?_, HBF.out, HKF.out⟩
        rw [HTK.out, List.foldl_append, HSS.out]
        show Value.int .i64 _ = Value.int .i64 (Sm + mostI ⟨cost, due, lims⟩ (nn - due) * priceI ⟨x1, x2, x3, x4, x5, ts⟩ ⟨cost, due, lims⟩)
        rw [HMM.out, HPE.out]
      case measure => simp [intOf]; omega
    · have hqi : ¬ (q : Int) < (n : Int) := by omega
      rw [List.take_of_length_le (by rw [HN.out]; omega)]
      go_wp2
      go_ret
      exact ⟨ret_int HE.out.symm, HBE.out⟩

end Go.Proofs.YthloffgebebijaaGreat
