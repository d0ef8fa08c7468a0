/- AheadE: the walk of package ahead's bound. -/
import Derived.Test.YthloffgebebijaaGreatAheadD
namespace Go.Proofs.YthloffgebebijaaGreat
open Go.RowKit

set_option maxRecDepth 100000 in
set_option maxHeartbeats 1600000 in
theorem aBound_any (B : Nat) (v vt : Value) (c : Cfg) (t : Tk) (w : World) (hv : CfC w B v c) (hvt : TaskC w B vt t) (hB : B ≤ w.heap.size) (hc : CfIn c) (ht : TkIn t) :
    Calls Tryz.prog 82 #[v, vt] w fun e w' => e = .returned (.int .i64 (boundI c t)) ∧ Below w.heap.size w w' := by
  have HCI := hide hc
  have HV := hide hv
  have HDB : Hid (∀ n : Int, n ≤ 1400 → 0 ≤ demandI c n ∧ demandI c n ≤ 20000000) := fun n hn => demand_bounds hc hn
  have HWB : Hid (∀ i : Nat, t.due + 1 + i ≤ 1400 → -1400 ≤ worstI c (t.due + 1) i ∧ worstI c (t.due + 1) i ≤ 20000000) := fun i hi => worst_bounds hc (by have := ht.d1; omega) i hi
  have HLB := hide (longest_bounds hc)
  have HE : Hid (boundI c t = t.due + longestI c + worstI c (t.due + 1) 999) := rfl
  have HDM := hide (fun (nn : Int) (w' : World) (hb' : Below w.heap.size w w') (h0 : 0 ≤ nn) (h1 : nn ≤ 1400) => aDemand_any B v c nn w' (hv.later hb' hB) (by have := hb'.size; omega) hc h0 h1)
  have HLG := hide (fun (w' : World) (hb' : Below w.heap.size w w') => aLongest_any B v c w' (hv.later hb' hB) (by have := hb'.size; omega) hc)
  have ht3 := ht.d1; have ht4 := ht.d2
  have HWS : Hid (∀ i : Nat, worstI c (t.due + 1) (i + 1) = max (worstI c (t.due + 1) i) (demandI c (t.due + 1 + (i + 1)) - (t.due + 1 + (i + 1)))) := fun _ => rfl
  have HW0 : Hid (worstI c (t.due + 1) 0 = demandI c (t.due + 1) - (t.due + 1)) := rfl
  obtain ⟨s, rfl, sa, scap, rfl, hs⟩ := hv
  obtain ⟨s2, rfl, la, lc, rfl, hl1, hl2⟩ := hvt
  obtain ⟨x1, x2, x3, x4, x5, ts⟩ := c
  obtain ⟨cost, due, lims⟩ := t
  simp only at ht3 ht4 HE HWB HWS HW0 HDM HLG HV ⊢
  generalize hN : ts.length = n at *
  generalize hC : (⟨x1, x2, x3, x4, x5, ts⟩ : Cfg) = C at *
  have HB1 : Hid (Below w.heap.size w ((w.alloc (.cells #[.int .i64 x1, .int .i64 x2, .int .i64 x3, .int .i64 x4, .int .i64 x5, .slice sa n scap] 40)).alloc (.cells #[.int .i64 cost, .int .i64 due, .slice la lims.length lc] 55))) := ((Below.refl _ _).alloc (Nat.le_refl _) _).alloc (by simp) _
  have HK1 : Hid (Blk ((w.alloc (.cells #[.int .i64 x1, .int .i64 x2, .int .i64 x3, .int .i64 x4, .int .i64 x5, .slice sa n scap] 40)).alloc (.cells #[.int .i64 cost, .int .i64 due, .slice la lims.length lc] 55)) w.heap.size #[.int .i64 x1, .int .i64 x2, .int .i64 x3, .int .i64 x4, .int .i64 x5, .slice sa n scap] 40) := (Blk.new _ _ _).alloc _
  have HT1 : Hid (Blk ((w.alloc (.cells #[.int .i64 x1, .int .i64 x2, .int .i64 x3, .int .i64 x4, .int .i64 x5, .slice sa n scap] 40)).alloc (.cells #[.int .i64 cost, .int .i64 due, .slice la lims.length lc] 55)) (w.heap.size + 1) #[.int .i64 cost, .int .i64 due, .slice la lims.length lc] 55) := by
    have := Blk.new (w.alloc (.cells #[.int .i64 x1, .int .i64 x2, .int .i64 x3, .int .i64 x4, .int .i64 x5, .slice sa n scap] 40)) #[.int .i64 cost, .int .i64 due, .slice la lims.length lc] 55
    simpa [Hid] using this
  clear hN hC hs hl1 hl2 hc ht
  go_enter Tryz.func82, Tryz.ntmps82
  go_wp2_with fail
  refine (HDM.out (due + 1) _ HB1.out (by omega) (by omega)).mono ?_
  rintro e w2 ⟨rfl, q2⟩
  have HB2 := hide (HB1.out.trans (q2.mono (by simp; omega)))
  have HK2 := hide (HK1.out.later q2 (by simp; omega))
  have HT2 := hide (HT1.out.later q2 (by simp))
  obtain ⟨hd0, hd1⟩ := HDB.out (due + 1) (by omega)
  generalize hD0 : demandI C (due + 1) = D0 at *
  clear q2 hD0
  go_wp2_with fail
  go_loopw [7, 8] (fun m i wr => ∃ q : Nat, i = .int .i64 (due + 1 + (q + 1)) ∧ q ≤ 999 ∧ m = .int .i64 (worstI C (due + 1) q) ∧ Below w.heap.size w wr ∧ Blk wr w.heap.size #[.int .i64 x1, .int .i64 x2, .int .i64 x3, .int .i64 x4, .int .i64 x5, .slice sa n scap] 40 ∧ Blk wr (w.heap.size + 1) #[.int .i64 cost, .int .i64 due, .slice la lims.length lc] 55) (fun _ i _ => 1402 - (intOf i).toNat)
  case atStart => exact ⟨0, by go_num, by omega, by rw [HW0.out], HB2.out, HK2.out, HT2.out⟩
  case round =>
    obtain ⟨q, rfl, hq, rfl, hbe, hk, htb⟩ := hrel
    have HBE := hide hbe
    have HK := hide hk
    have HT := hide htb
    have hsz := hbe.size
    have hzk := htb.lt
    have k0 : wr.cell? ⟨w.heap.size, 0, none⟩ = some (.int .i64 x1) := hk.cell 0
    have k1 : wr.cell? ⟨w.heap.size, 1, none⟩ = some (.int .i64 x2) := hk.cell 1
    have k2 : wr.cell? ⟨w.heap.size, 2, none⟩ = some (.int .i64 x3) := hk.cell 2
    have k3 : wr.cell? ⟨w.heap.size, 3, none⟩ = some (.int .i64 x4) := hk.cell 3
    have k4 : wr.cell? ⟨w.heap.size, 4, none⟩ = some (.int .i64 x5) := hk.cell 4
    have k5 : wr.cell? ⟨w.heap.size, 5, none⟩ = some (.slice sa n scap) := hk.cell 5
    have kt : wr.cell? ⟨w.heap.size + 1, 1, none⟩ = some (.int .i64 due) := htb.cell 1
    clear hbe hk htb
    obtain ⟨hw0, hw1⟩ := HWB.out q (by omega)
    by_cases hlt : q < 999
    · have HWq := hide (HWS.out q)
      generalize hWv : worstI C (due + 1) q = Wv at *
      obtain ⟨hd2, hd3⟩ := HDB.out (due + 1 + (q + 1)) (by omega)
      have hle : due + 1 + ((q : Int) + 1) ≤ due + 1000 := by omega
      clear hWv
      go_wp2_with fail
      refine (HDM.out (due + 1 + (q + 1)) _ HBE.out (by omega) (by omega)).mono ?_
      rintro e w3 ⟨rfl, q3⟩
      have HB3 := hide (HBE.out.trans (q3.mono hsz))
      have HK3 := hide (HK.out.later q3 (by omega))
      have HT3 := hide (HT.out.later q3 (by omega))
      generalize hD1 : demandI C (due + 1 + (q + 1)) = D1 at *
      clear q3 hD1 k0 k1 k2 k3 k4 k5 kt
      go_wp2
      go_roundw
      case rel =>
        refine ⟨q + 1, by go_num, by omega, ?_, HB3.out, HK3.out, HT3.out⟩
        rw [HWq.out]
        congr 1
        split <;> omega
      case measure => simp [intOf]; omega
    · obtain rfl : q = 999 := by omega
      have hle : ¬ due + 1 + (((999 : Nat) : Int) + 1) ≤ due + 1000 := by omega
      generalize hWv : worstI C (due + 1) 999 = Wv at *
      obtain ⟨hlb0, hlb1⟩ := HLB.out
      have HLGr := hide (HLG.out wr.drew HBE.out.drew)
      generalize hL : longestI C = Lg at *
      have we1 : IntKind.i64.wrap (due + Lg) = due + Lg := IntWalk.i64_in _ ⟨by omega, by omega⟩
      have we2 : IntKind.i64.wrap (due + Lg + Wv) = due + Lg + Wv := IntWalk.i64_in _ ⟨by omega, by omega⟩
      clear hWv hL
      go_wp2_with fail
      go_region_held3 (fun w' => w'.cell? ⟨w.heap.size, 0, none⟩ = some (.int .i64 x1) ∧ w'.cell? ⟨w.heap.size, 1, none⟩ = some (.int .i64 x2) ∧ w'.cell? ⟨w.heap.size, 2, none⟩ = some (.int .i64 x3) ∧ w'.cell? ⟨w.heap.size, 3, none⟩ = some (.int .i64 x4) ∧ w'.cell? ⟨w.heap.size, 4, none⟩ = some (.int .i64 x5) ∧ w'.cell? ⟨w.heap.size, 5, none⟩ = some (.slice sa n scap) ∧ w'.cell? ⟨w.heap.size + 1, 1, none⟩ = some (.int .i64 due)) (first | exact ⟨k0, k1, k2, k3, k4, k5, kt⟩ | exact ⟨z0, z1, z2, z3, z4, z5, zt⟩)
        (first | (go_at_call 100; refine HLGr.out.mono ?_; rintro e w3 ⟨rfl, b3⟩; have z0 := (b3.cell (p := ⟨w.heap.size, 0, none⟩) (by simp; omega)).trans k0; have z1 := (b3.cell (p := ⟨w.heap.size, 1, none⟩) (by simp; omega)).trans k1; have z2 := (b3.cell (p := ⟨w.heap.size, 2, none⟩) (by simp; omega)).trans k2; have z3 := (b3.cell (p := ⟨w.heap.size, 3, none⟩) (by simp; omega)).trans k3; have z4 := (b3.cell (p := ⟨w.heap.size, 4, none⟩) (by simp; omega)).trans k4; have z5 := (b3.cell (p := ⟨w.heap.size, 5, none⟩) (by simp; omega)).trans k5; have zt := (b3.cell (p := ⟨w.heap.size + 1, 1, none⟩) (by simp; omega)).trans kt; have HB3 := hide b3; clear b3))
      have HBF : Hid (Below w.heap.size w w3) := HBE.out.trans ((undrewB HB3.out).mono hsz)
      go_wp2
      go_ret
      exact ⟨ret_int HE.out.symm, HBF.out⟩

end Go.Proofs.YthloffgebebijaaGreat
