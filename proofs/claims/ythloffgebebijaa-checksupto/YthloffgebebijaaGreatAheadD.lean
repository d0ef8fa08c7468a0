/- AheadD: the walk of package ahead's demand. -/
import Derived.Test.YthloffgebebijaaGreatAheadC
import Derived.Deep.RegionHeld3
namespace Go.Proofs.YthloffgebebijaaGreat
open Go.RowKit

theorem undrewB {w w' : World} (h : Below w.drew.heap.size w.drew w') : Below w.heap.size w w' := ⟨h.os, h.tape, h.output, h.size, h.block⟩

set_option maxRecDepth 100000 in
set_option maxHeartbeats 1600000 in
theorem aDemand_any (B : Nat) (v : Value) (c : Cfg) (nn : Int) (w : World) (hv : CfC w B v c) (hB : B ≤ w.heap.size) (hc : CfIn c) (hn0 : 0 ≤ nn) (hn1 : nn ≤ 1400) :
    Calls Tryz.prog 99 #[v, .int .i64 nn] w fun e w' => e = .returned (.int .i64 (demandI c nn)) ∧ Below w.heap.size w w' := by
  have HCI := hide hc
  have HLT := hide (fun k => demand_take hc hn1 k)
  have HTM : Hid (∀ t, TkIn t → 0 ≤ mostI t (nn - t.due) * priceI c t ∧ mostI t (nn - t.due) * priceI c t ≤ 1800 * 1400) := fun t ht => term_bounds hc ht (by have := ht.d1; omega) (by decide)
  have HE : Hid (demandI c nn = c.tasks.foldl (fun s t => s + mostI t (nn - t.due) * priceI c t) 0) := rfl
  obtain ⟨s, rfl, sa, scap, rfl, hs⟩ := hv
  obtain ⟨x1, x2, x3, x4, x5, ts⟩ := c
  have h1 := hc.p1; have h2 := hc.p2; have h5 := hc.s1; have h6 := hc.s2; have hn := hc.n2
  simp only at hs h1 h2 h5 h6 hn HLT HE HTM ⊢
  have HC := hide hs
  generalize hN : ts.length = n at *
  have HN := hide hN
  have HB1 : Hid (Below w.heap.size w (w.alloc (.cells #[.int .i64 x1, .int .i64 x2, .int .i64 x3, .int .i64 x4, .int .i64 x5, .slice sa n scap] 40))) := (Below.refl _ _).alloc (Nat.le_refl _) _
  have HK1 := hide (Blk.new w #[.int .i64 x1, .int .i64 x2, .int .i64 x3, .int .i64 x4, .int .i64 x5, .slice sa n scap] 40)
  clear hN hs hc
  go_enter Tryz.func99, Tryz.ntmps99
  go_wp2_with fail
  go_loopw [5, 11] (fun m i wr => ∃ q : Nat, i = .int .i64 q ∧ q ≤ n ∧ m = .int .i64 ((ts.take q).foldl (fun s t => s + mostI t (nn - t.due) * priceI ⟨x1, x2, x3, x4, x5, ts⟩ t) 0) ∧ Below w.heap.size w wr ∧ Blk wr w.heap.size #[.int .i64 x1, .int .i64 x2, .int .i64 x3, .int .i64 x4, .int .i64 x5, .slice sa n scap] 40) (fun _ i _ => n - (intOf i).toNat)
  case atStart => exact ⟨0, rfl, Nat.zero_le _, by simp, HB1.out, HK1.out⟩
  case round =>
    obtain ⟨q, rfl, hq, rfl, hbe, hk⟩ := hrel
    have HBE := hide hbe
    have HK := hide hk
    have hsz := hbe.size
    have hzk := hk.lt
    obtain ⟨hm0, hm1⟩ := HLT.out q
    clear hbe hk
    by_cases hlt : q < n
    · obtain ⟨t, hg⟩ := get_of_lt (l := ts) (k := q) (by rw [HN.out]; exact hlt)
      have hti := HCI.out.ts t (List.mem_of_getElem? hg)
      have HTI := hide hti
      rcases HC.out with he | ⟨sb, so, rfl, hsb, hsc⟩
      · rw [he] at hg; simp at hg
      obtain ⟨d0, d1, sl, d2, hls⟩ := (hsc q _ hg).later HBE.out hB (by omega)
      have HTK := hide (take_snoc hg)
      have ht1 := hti.c1; have ht2 := hti.c2; have ht3 := hti.d1; have ht4 := hti.d2
      obtain ⟨htm0, htm1⟩ := HTM.out t hti
      have hmb := most_bounds hti.ls (k := nn - t.due) (K := 1400) (by omega) (by decide)
      obtain ⟨hmb0, hmb1⟩ := hmb
      obtain ⟨cost, due, lims⟩ := t
      simp only at d0 d1 ht1 ht2 ht3 ht4 hls hmb0 hmb1
      have HLC := hide hls
      obtain ⟨la, lc, rfl, _, _⟩ := hls
      have hqi : (q : Int) < (n : Int) := by omega
      have hsbw : sb < wr.heap.size := by omega
      have HBA : Hid (Below wr.heap.size wr (wr.alloc (.cells #[.int .i64 cost, .int .i64 due, .slice la lims.length lc] 55))) := (Below.refl _ _).alloc (Nat.le_refl _) _
      have HPE : Hid (priceI ⟨x1, x2, x3, x4, x5, ts⟩ ⟨cost, due, lims⟩ = x3 + x5 + cost) := rfl
      have HMO := hide (fun (w' : World) (hb' : Below wr.heap.size wr w') => most_any B (.agg #[.int .i64 cost, .int .i64 due, .slice la lims.length lc]) ⟨cost, due, lims⟩ (nn - due) w' ⟨_, rfl, HLC.out.later hb' (by omega)⟩ (by have := hb'.size; omega) HTI.out (by omega) (by omega))
      have HPR := hide (fun w' => aPrice_any x1 x2 x3 x4 x5 (.slice (some ⟨sb, so, none⟩) n scap) (.slice la lims.length lc) cost due w' ⟨h1, h2⟩ ⟨h5, h6⟩ ⟨ht1, ht2⟩ _ _ _ _ _ _ rfl rfl)
      rw [HPE.out] at htm0 htm1
      generalize hS : (ts.take q).foldl (fun s t => s + mostI t (nn - t.due) * priceI ⟨x1, x2, x3, x4, x5, ts⟩ t) 0 = Sm at *
      generalize hM : mostI ⟨cost, due, lims⟩ (nn - due) = M at *
      have HSS := hide hS
      have HMM := hide hM
      have we0 : IntKind.i64.wrap (nn - due) = nn - due := IntWalk.i64_in _ ⟨by omega, by omega⟩
      have we1 : IntKind.i64.wrap (M * (x3 + x5 + cost)) = M * (x3 + x5 + cost) := IntWalk.i64_in _ ⟨by omega, by omega⟩
      have we2 : IntKind.i64.wrap (Sm + M * (x3 + x5 + cost)) = Sm + M * (x3 + x5 + cost) := IntWalk.i64_in _ ⟨by omega, by omega⟩
      clear hg hM hS hsc
      go_wp2_with fail
      have k0 : (wr.alloc (.cells #[.int .i64 cost, .int .i64 due, .slice la lims.length lc] 55)).cell? ⟨w.heap.size, 0, none⟩ = some (.int .i64 x1) := (HK.out.alloc _).cell 0
      have k1 : (wr.alloc (.cells #[.int .i64 cost, .int .i64 due, .slice la lims.length lc] 55)).cell? ⟨w.heap.size, 1, none⟩ = some (.int .i64 x2) := (HK.out.alloc _).cell 1
      have k2 : (wr.alloc (.cells #[.int .i64 cost, .int .i64 due, .slice la lims.length lc] 55)).cell? ⟨w.heap.size, 2, none⟩ = some (.int .i64 x3) := (HK.out.alloc _).cell 2
      have k3 : (wr.alloc (.cells #[.int .i64 cost, .int .i64 due, .slice la lims.length lc] 55)).cell? ⟨w.heap.size, 3, none⟩ = some (.int .i64 x4) := (HK.out.alloc _).cell 3
      have k4 : (wr.alloc (.cells #[.int .i64 cost, .int .i64 due, .slice la lims.length lc] 55)).cell? ⟨w.heap.size, 4, none⟩ = some (.int .i64 x5) := (HK.out.alloc _).cell 4
      have k5 : (wr.alloc (.cells #[.int .i64 cost, .int .i64 due, .slice la lims.length lc] 55)).cell? ⟨w.heap.size, 5, none⟩ = some (.slice (some ⟨sb, so, none⟩) n scap) := (HK.out.alloc _).cell 5
      have kt0 : (wr.alloc (.cells #[.int .i64 cost, .int .i64 due, .slice la lims.length lc] 55)).cell? ⟨wr.heap.size, 0, none⟩ = some (.int .i64 cost) := (Blk.new wr _ _).cell 0
      have kt1 : (wr.alloc (.cells #[.int .i64 cost, .int .i64 due, .slice la lims.length lc] 55)).cell? ⟨wr.heap.size, 1, none⟩ = some (.int .i64 due) := (Blk.new wr _ _).cell 1
      have kt2 : (wr.alloc (.cells #[.int .i64 cost, .int .i64 due, .slice la lims.length lc] 55)).cell? ⟨wr.heap.size, 2, none⟩ = some (.slice la lims.length lc) := (Blk.new wr _ _).cell 2
      have hza : (wr.alloc (.cells #[.int .i64 cost, .int .i64 due, .slice la lims.length lc] 55)).heap.size = wr.heap.size + 1 := by simp
      have HKA := hide (HK.out.alloc (.cells #[.int .i64 cost, .int .i64 due, .slice la lims.length lc] 55))
      generalize hWA : wr.alloc (.cells #[.int .i64 cost, .int .i64 due, .slice la lims.length lc] 55) = WA at *
      clear hWA
      go_region_held3 (fun w' => w'.cell? ⟨w.heap.size, 0, none⟩ = some (.int .i64 x1) ∧ w'.cell? ⟨w.heap.size, 1, none⟩ = some (.int .i64 x2) ∧ w'.cell? ⟨w.heap.size, 2, none⟩ = some (.int .i64 x3) ∧ w'.cell? ⟨w.heap.size, 3, none⟩ = some (.int .i64 x4) ∧ w'.cell? ⟨w.heap.size, 4, none⟩ = some (.int .i64 x5) ∧ w'.cell? ⟨w.heap.size, 5, none⟩ = some (.slice (some ⟨sb, so, none⟩) n scap) ∧ w'.cell? ⟨wr.heap.size, 0, none⟩ = some (.int .i64 cost) ∧ w'.cell? ⟨wr.heap.size, 1, none⟩ = some (.int .i64 due) ∧ w'.cell? ⟨wr.heap.size, 2, none⟩ = some (.slice la lims.length lc)) (first | exact ⟨k0, k1, k2, k3, k4, k5, kt0, kt1, kt2⟩ | exact ⟨z0, z1, z2, z3, z4, z5, zt0, zt1, zt2⟩ | exact ⟨u0, u1, u2, u3, u4, u5, ut0, ut1, ut2⟩)
        (first
          | (go_at_call 83; refine (HMO.out WA.drew HBA.out.drew).mono ?_; rintro e w3 ⟨rfl, b3⟩; have z0 := (b3.cell (p := ⟨w.heap.size, 0, none⟩) (by simp; omega)).trans k0; have z1 := (b3.cell (p := ⟨w.heap.size, 1, none⟩) (by simp; omega)).trans k1; have z2 := (b3.cell (p := ⟨w.heap.size, 2, none⟩) (by simp; omega)).trans k2; have z3 := (b3.cell (p := ⟨w.heap.size, 3, none⟩) (by simp; omega)).trans k3; have z4 := (b3.cell (p := ⟨w.heap.size, 4, none⟩) (by simp; omega)).trans k4; have z5 := (b3.cell (p := ⟨w.heap.size, 5, none⟩) (by simp; omega)).trans k5; have zt0 := (b3.cell (p := ⟨wr.heap.size, 0, none⟩) (by simp; omega)).trans kt0; have zt1 := (b3.cell (p := ⟨wr.heap.size, 1, none⟩) (by simp; omega)).trans kt1; have zt2 := (b3.cell (p := ⟨wr.heap.size, 2, none⟩) (by simp; omega)).trans kt2; have hz3 : WA.heap.size ≤ w3.heap.size := b3.size; have HB3 := hide b3; clear b3)
          | (go_at_call 115; refine (HPR.out w3).mono ?_; rintro e w4 ⟨rfl, b4⟩; have u0 := (b4.cell (p := ⟨w.heap.size, 0, none⟩) (by simp; omega)).trans z0; have u1 := (b4.cell (p := ⟨w.heap.size, 1, none⟩) (by simp; omega)).trans z1; have u2 := (b4.cell (p := ⟨w.heap.size, 2, none⟩) (by simp; omega)).trans z2; have u3 := (b4.cell (p := ⟨w.heap.size, 3, none⟩) (by simp; omega)).trans z3; have u4 := (b4.cell (p := ⟨w.heap.size, 4, none⟩) (by simp; omega)).trans z4; have u5 := (b4.cell (p := ⟨w.heap.size, 5, none⟩) (by simp; omega)).trans z5; have ut0 := (b4.cell (p := ⟨wr.heap.size, 0, none⟩) (by simp; omega)).trans zt0; have ut1 := (b4.cell (p := ⟨wr.heap.size, 1, none⟩) (by simp; omega)).trans zt1; have ut2 := (b4.cell (p := ⟨wr.heap.size, 2, none⟩) (by simp; omega)).trans zt2; have HB4 := hide b4; clear b4))
      have HBF : Hid (Below WA.heap.size WA w4) := (undrewB HB3.out).trans (HB4.out.mono hz3)
      have HKF := hide (HKA.out.later HBF.out (by omega))
      have HBW : Hid (Below w.heap.size w w4) := (HBE.out.trans (HBA.out.mono hsz)).trans (HBF.out.mono (by omega))
      go_wp2
      go_roundw
      case rel =>
        refine ⟨q + 1, by go_num, by omega, ?_, HBW.out, HKF.out⟩
        rw [HTK.out, List.foldl_append, HSS.out]
        show Value.int .i64 _ = Value.int .i64 (Sm + mostI ⟨cost, due, lims⟩ (nn - due) * priceI ⟨x1, x2, x3, x4, x5, ts⟩ ⟨cost, due, lims⟩)
        rw [HMM.out, HPE.out]
      case measure => simp [intOf]; omega
    · have hqi : ¬ (q : Int) < (n : Int) := by omega
      rw [List.take_of_length_le (by rw [HN.out]; omega)]
      go_wp2
      go_ret
      exact ⟨ret_int HE.out.symm, HBE.out⟩

end Go.Proofs.YthloffgebebijaaGreat
