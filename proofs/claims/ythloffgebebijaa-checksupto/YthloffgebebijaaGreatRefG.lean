/- RefG: the walk of the reference's Check: it answers what the program answers. -/
import Derived.Test.YthloffgebebijaaGreatRefF
import Derived.Test.YthloffgebebijaaGreatCheckA
import Derived.Test.YthloffgebebijaaGreatSetA
import Derived.Test.YthloffgebebijaaGreatBookB
import Derived.Test.YthloffgebebijaaGreatLentA
import Derived.Deep.RegionLaw
import Derived.Deep.DeepMust
namespace Go.Proofs.YthloffgebebijaaGreat
open Go.RowKit

/-- The reference's list of what is over, of the first q lengths. -/
def overL (lo : Int) (df : Int → Int) (q : Nat) : List Value := (List.range q).map fun (i : Nat) => Value.int .i64 (lo + df i - i)
theorem overL_succ (lo : Int) (df : Int → Int) (q : Nat) : overL lo df (q + 1) = overL lo df q ++ [.int .i64 (lo + df q - q)] := by simp [overL, List.range_succ]
theorem overL_get (lo : Int) (df : Int → Int) (q i : Nat) (h : i < q) : (overL lo df q)[i]? = some (.int .i64 (lo + df i - i)) := by simp [overL, h]

set_option maxRecDepth 100000 in
set_option maxHeartbeats 3200000 in
theorem refCheck_yes (B : Nat) (v : Value) (c : Cfg) (w : World) (hv : Cf w B v c) (hB : B ≤ w.heap.size) (hok : cfgOk c = true) :
    Calls Tryz.prog 34 #[v] w fun e w' => ∃ a cap, e = .returned (.tuple #[.agg #[.int .i64 (whatI c), .slice a c.tasks.length cap, .int .i64 (needI c)], .int .i64 0]) ∧ w'.ownsRow w.heap.size 3 1 (.slice a c.tasks.length cap) c.tasks.length (intsV (c.tasks.map (boundI c))) ∧ Below w.heap.size w w' := by
  have hc := CfIn.of hok
  have HFI : Hid (∀ w' : World, Below w.heap.size w w' → Calls Tryz.prog 55 #[v] w' fun e w'' => e = .returned (.bool true) ∧ Below w'.heap.size w' w'') := fun w' hb' => by
    have h1 := refFits_any v B c w' (hv.later hb' hB) (by have := hb'.size; omega)
    rw [hok] at h1
    exact h1
  have HLO := hide (fun (w' : World) (hb' : Below w.heap.size w w') => rLongest_any B v c w' (hv.later hb' hB) (by have := hb'.size; omega) hc)
  have HDE := hide (fun (w' : World) (hb' : Below w.heap.size w w') (nn : Int) (h0 : 0 ≤ nn) (h1 : nn ≤ 1400) => rDemand_any B v c nn w' (hv.later hb' hB) (by have := hb'.size; omega) hc h0 h1)
  have HDB : Hid (∀ n : Int, n ≤ 1400 → 0 ≤ demandI c n ∧ demandI c n ≤ 20000000) := fun n hn => demand_bounds hc hn
  have HWB : Hid (∀ (f : Int), 0 ≤ f → ∀ i : Nat, f + i ≤ 1400 → -1400 ≤ worstI c f i ∧ worstI c f i ≤ 20000000) := fun f hf i hi => worst_bounds hc hf i hi
  have HBD : Hid (∀ t : Tk, boundI c t = t.due + longestI c + worstI c (t.due + 1) 999) := fun t => rfl
  have HW0 : Hid (∀ f : Int, worstI c f 0 = demandI c f - f) := fun f => rfl
  have HWS : Hid (∀ (f : Int) (i : Nat), worstI c f (i + 1) = max (worstI c f i) (demandI c (f + (i + 1)) - (f + (i + 1)))) := fun f i => rfl
  have HND := hide (fun k => need_take hc k)
  have HNE : Hid (needI c = c.tasks.foldl (fun s t => s + mostI t (boundI c t)) 0) := rfl
  have HE : Hid (whatI c = if c.tasks.any (fun t => decide (t.due < boundI c t)) = true then 2 else if c.room < needI c then 3 else 1) := rfl
  have HTS : Hid (∀ t ∈ c.tasks, TkIn t) := hc.ts
  obtain ⟨hlo0, hlo1⟩ := longest_bounds hc
  have hr1 := hc.r1; have hr2 := hc.r2; have hn := hc.n2
  obtain ⟨i0, hi, hz0, hzs, hzb⟩ := info_parts info_int
  have HI := hide (And.intro hi (And.intro hz0 (And.intro hzs hzb)))
  obtain ⟨s, rfl, sa, scap, rfl, hs⟩ := hv
  have HC := hide hs
  generalize hbf : boundI c = bf at *
  generalize hwh : whatI c = wh at *
  generalize hnd : needI c = nd at *
  generalize hlo : longestI c = lo at *
  generalize hdf : demandI c = df at *
  generalize hwf : worstI c = wf at *
  clear hbf hwh hnd hlo hdf hwf hi hz0 hzs hzb
  obtain ⟨x1, x2, x3, x4, x5, ts⟩ := c
  simp only at hn hr1 hr2 HND HNE HE HC HTS HFI HLO HDE ⊢
  generalize hN : ts.length = n at *
  have HN := hide hN
  have HB0 : Hid (Below w.heap.size w ((w.alloc (.cells #[.int .i64 x1, .int .i64 x2, .int .i64 x3, .int .i64 x4, .int .i64 x5, .slice sa n scap] 40)).alloc (.cells #[.int .i64 0, .slice none 0 0, .int .i64 0] 86))) := ((Below.refl _ _).alloc (Nat.le_refl _) _).alloc (by simp) _
  have HK0 : Hid (Blk ((w.alloc (.cells #[.int .i64 x1, .int .i64 x2, .int .i64 x3, .int .i64 x4, .int .i64 x5, .slice sa n scap] 40)).alloc (.cells #[.int .i64 0, .slice none 0 0, .int .i64 0] 86)) w.heap.size #[.int .i64 x1, .int .i64 x2, .int .i64 x3, .int .i64 x4, .int .i64 x5, .slice sa n scap] 40) := (Blk.new _ _ _).alloc _
  have HR0 : Hid (Blk ((w.alloc (.cells #[.int .i64 x1, .int .i64 x2, .int .i64 x3, .int .i64 x4, .int .i64 x5, .slice sa n scap] 40)).alloc (.cells #[.int .i64 0, .slice none 0 0, .int .i64 0] 86)) (w.heap.size + 1) #[.int .i64 0, .slice none 0 0, .int .i64 0] 86) := by
    have := Blk.new (w.alloc (.cells #[.int .i64 x1, .int .i64 x2, .int .i64 x3, .int .i64 x4, .int .i64 x5, .slice sa n scap] 40)) #[.int .i64 0, .slice none 0 0, .int .i64 0] 86
    simpa [Hid] using this
  clear hN hs hc
  go_enter Tryz.func34, Tryz.ntmps34
  go_wp2_with fail
  refine (HFI.out _ HB0.out).mono ?_
  rintro e w1 ⟨rfl, q1⟩
  have hz1 := q1.size
  simp only [World.size_alloc] at hz1
  have HB1 : Hid (Below w.heap.size w w1) := HB0.out.trans (q1.mono (by simp; omega))
  have HK1 := hide (HK0.out.later q1 (by simp; omega))
  have HR1 := hide (HR0.out.later q1 (by simp))
  clear q1
  have k0 : w1.cell? ⟨w.heap.size, 0, none⟩ = some (.int .i64 x1) := HK1.out.cell 0
  have k1 : w1.cell? ⟨w.heap.size, 1, none⟩ = some (.int .i64 x2) := HK1.out.cell 1
  have k2 : w1.cell? ⟨w.heap.size, 2, none⟩ = some (.int .i64 x3) := HK1.out.cell 2
  have k3 : w1.cell? ⟨w.heap.size, 3, none⟩ = some (.int .i64 x4) := HK1.out.cell 3
  have k4 : w1.cell? ⟨w.heap.size, 4, none⟩ = some (.int .i64 x5) := HK1.out.cell 4
  have k5 : w1.cell? ⟨w.heap.size, 5, none⟩ = some (.slice sa n scap) := HK1.out.cell 5
  go_wp2_with fail
  refine (HLO.out _ HB1.out).mono ?_
  rintro e w2 ⟨rfl, q2⟩
  have hz2 := q2.size
  have HB2 : Hid (Below w.heap.size w w2) := HB1.out.trans (q2.mono (by omega))
  have HK2 := hide (HK1.out.later q2 (by omega))
  have HR2 := hide (HR1.out.later q2 (by omega))
  clear q2 k0 k1 k2 k3 k4 k5
  go_wp2_with fail
  go_loopw [5, 7] (fun o i wr => ∃ (q : Nat) (oa : Option Addr) (oc : Nat), i = .int .i64 q ∧ q ≤ 1401 ∧ o = .slice oa q oc ∧ wr.ownsRow w.heap.size 3 1 (.slice oa q oc) q (overL lo df q) ∧ Below w.heap.size w wr ∧ Blk wr w.heap.size #[.int .i64 x1, .int .i64 x2, .int .i64 x3, .int .i64 x4, .int .i64 x5, .slice sa n scap] 40 ∧ Blk wr (w.heap.size + 1) #[.int .i64 0, .slice none 0 0, .int .i64 0] 86) (fun _ i _ => 1401 - (intOf i).toNat)
  case atStart => exact ⟨0, none, 0, rfl, by omega, rfl, by simpa [overL] using World.ownsRow_nil w2 w.heap.size 3 1, HB2.out, HK2.out, HR2.out⟩
  case round =>
    obtain ⟨q, oa, oc, rfl, hq, rfl, ho, hbe, hk, hr⟩ := hrel
    have HO := hide ho
    have HBE := hide hbe
    have HK := hide hk
    have HR := hide hr
    have hsz := hbe.size
    have hzr := hr.lt
    have k0 : wr.cell? ⟨w.heap.size, 0, none⟩ = some (.int .i64 x1) := hk.cell 0
    have k1 : wr.cell? ⟨w.heap.size, 1, none⟩ = some (.int .i64 x2) := hk.cell 1
    have k2 : wr.cell? ⟨w.heap.size, 2, none⟩ = some (.int .i64 x3) := hk.cell 2
    have k3 : wr.cell? ⟨w.heap.size, 3, none⟩ = some (.int .i64 x4) := hk.cell 3
    have k4 : wr.cell? ⟨w.heap.size, 4, none⟩ = some (.int .i64 x5) := hk.cell 4
    have k5 : wr.cell? ⟨w.heap.size, 5, none⟩ = some (.slice sa n scap) := hk.cell 5
    clear ho hbe hk hr
    by_cases hlt : q ≤ 1400
    · obtain ⟨hd0, hd1⟩ := HDB.out q (by omega)
      have hqi : (q : Int) ≤ 1400 := by omega
      go_wp2_with fail
      refine (HDE.out wr HBE.out q (by omega) hqi).mono ?_
      rintro e w3 ⟨rfl, q3⟩
      have HB3 : Hid (Below w.heap.size w w3) := HBE.out.trans (q3.mono hsz)
      have HO3 := hide (owns_below HO.out q3)
      have HK3 := hide (HK.out.later q3 (by omega))
      have HR3 := hide (HR.out.later q3 (by omega))
      have hz3 := q3.size
      generalize hD : df q = D at *
      have HD := hide hD
      clear q3 k0 k1 k2 k3 k4 k5 hD
      go_wp2_with (at_builtin; go_must (refine wpList_append_own _ rfl _ _ 24 rfl w.heap.size 3 i0 (.int .i64 0) 1 8 Tryz.underlying24 HI.out.1 HI.out.2.1 HI.out.2.2.1 HI.out.2.2.2 rfl (by decide) (.slice oa q oc) q (overL lo df q) rfl (HO3.out.alloc _) ⟨w3.heap.size, 0, none⟩ 1 1 [.int .i64 (lo + D - q)] rfl rfl ?_ ?_ ?_ ?_ ?_ ?_))
      · exact new_cells w3 [.int .i64 (lo + D - q)] 3 w3.heap.size rfl
      · intro u hu; simp at hu; subst hu; rfl
      · unfold maxLen; omega
      · omega
      · simp; omega
      intro v4 w4 ho4 hg4 _
      have hk4 := KeepBut.grown hg4 (HO3.out.alloc _) (Nat.le_refl _)
      have HK4 := hide ((HK3.out.alloc (.cells #[.int .i64 (lo + D - q)] 3)).kept hk4 (by decide))
      have HR4 := hide ((HR3.out.alloc (.cells #[.int .i64 (lo + D - q)] 3)).kept hk4 (by decide))
      have HB4 : Hid (Below w.heap.size w w4) := (HB3.out.alloc (by omega) _).trans (hk4.below (by simp; omega))
      obtain ⟨va4, vc4, rfl⟩ := owns_slice ho4
      have HO4 := hide ho4
      clear ho4 hg4 hk4
      go_wp2
      go_roundw
      case rel =>
        refine ⟨q + 1, va4, vc4, by go_num, by omega, rfl, ?_, HB4.out, HK4.out, HR4.out⟩
        rw [overL_succ, HD.out]
        exact HO4.out
      case measure => simp [intOf]; omega
    · have hqi : ¬ (q : Int) ≤ 1400 := by omega
      obtain rfl : q = 1401 := by omega
      have HOV : Hid (∃ g, oa = some ⟨g, 0, none⟩ ∧ g < wr.heap.size ∧ ∀ i : Nat, i < 1401 → wr.cell? ⟨g, i, none⟩ = some (.int .i64 (lo + df i - i))) := by
        obtain ⟨g, cap, e1, _, hg, _⟩ := owns_cell1 HO.out (overL_get lo df 1401 0 (by omega))
        cases e1
        refine ⟨g, rfl, hg, fun i hi => ?_⟩
        obtain ⟨g', cap', e1, _, _, hc', _⟩ := owns_cell1 HO.out (overL_get lo df 1401 i hi)
        cases e1
        exact hc'
      obtain ⟨g, rfl, hg, hov⟩ := HOV.out
      have HOC := hide hov
      obtain ⟨W1, hW1⟩ : ∃ W, W = wr := ⟨_, rfl⟩
      subst hW1
      have HB5 : Hid (Below W1.heap.size W1 (W1.alloc (.cells #[.int .i64 1, .slice none 0 0, .int .i64 0] 86))) := (Below.refl _ _).alloc (Nat.le_refl _) _
      have HR5 := hide (Blk.new W1 #[.int .i64 1, .slice none 0 0, .int .i64 0] 86)
      clear hov HO k0 k1 k2 k3 k4 k5
      go_wp2_with fail
      go_loopw [10] (fun i wr => ∃ (q : Nat) (ba : Option Addr) (bc : Nat), i = .int .i64 q ∧ q ≤ n ∧ wr.ownsRow (W1.heap.size + 1) 3 1 (.slice ba q bc) q (intsV ((ts.take q).map bf)) ∧ Blk wr W1.heap.size #[.int .i64 (if (ts.take q).any (fun t => decide (t.due < bf t)) = true then 2 else 1), .slice ba q bc, .int .i64 ((ts.take q).foldl (fun s t => s + mostI t (bf t)) 0)] 86 ∧ Below W1.heap.size W1 wr) (fun i _ => n - (intOf i).toNat)
      case atStart => exact ⟨0, none, 0, rfl, by omega, by simpa [intsV] using World.ownsRow_nil _ (W1.heap.size + 1) 3 1, by simpa using HR5.out, HB5.out⟩
      case round =>
        obtain ⟨q, ba, bc, rfl, hq, ho, hr, hbe⟩ := hrel
        have HO := hide ho
        have HRR := hide hr
        have HBE1 := hide hbe
        have hsz1 := hbe.size
        have hzr1 := hr.lt
        have k1 : wr.cell? ⟨w.heap.size, 1, none⟩ = some (.int .i64 x2) := (HK.out.later hbe (by omega)).cell 1
        have k5 : wr.cell? ⟨w.heap.size, 5, none⟩ = some (.slice sa n scap) := (HK.out.later hbe (by omega)).cell 5
        clear ho hbe hr
        by_cases hlt : q < n
        · obtain ⟨t, hgt⟩ := get_of_lt (l := ts) (k := q) (by rw [HN.out]; exact hlt)
          have hti := HTS.out t (List.mem_of_getElem? hgt)
          have HTI := hide hti
          rcases HC.out with he | ⟨sb, so, rfl, hsb, hsc⟩
          · rw [he] at hgt; simp at hgt
          obtain ⟨k6, k7, sl, k8, hls⟩ := ((hsc q _ hgt).later HBE.out hB (by omega)).later HBE1.out (by omega) (by omega)
          have HTK := hide (take_snoc hgt)
          have ht3 := hti.d1; have ht4 := hti.d2
          obtain ⟨cost, due, lims⟩ := t
          simp only at k6 k7 ht3 ht4 hls
          obtain ⟨D, rfl⟩ : ∃ D : Nat, due = D := ⟨due.toNat, by omega⟩
          have HLC := hide hls
          obtain ⟨la, lc, rfl, _⟩ := hls
          have hqi : (q : Int) < (n : Int) := by omega
          have hsbw : sb < wr.heap.size := by omega
          have hgw : g < wr.heap.size := by omega
          have o1 : wr.cell? ⟨g, D + 1, none⟩ = some (.int .i64 (lo + wf (D + 1) 0)) := by
            rw [HBE1.out.cell (p := ⟨g, D + 1, none⟩) hg, HOC.out (D + 1) (by omega), HW0.out]
            simp only [Option.some.injEq, Value.int.injEq, true_and]
            push_cast
            omega
          have hob : (D : Int) + 1 < 1401 := by omega
          clear hgt hsc
          obtain ⟨W2, hW2⟩ : ∃ W, W = wr := ⟨_, rfl⟩
          subst hW2
          go_wp2_with fail
          go_loopw [12, 13] (fun b m wr => ∃ p : Nat, m = .int .i64 (D + 1 + p) ∧ p ≤ 1000 ∧ b = .int .i64 (lo + wf (D + 1) (p - 1)) ∧ W2 = wr) (fun _ m _ => D + 1001 - (intOf m).toNat)
          case atStart => exact ⟨0, rfl, by omega, rfl, rfl⟩
          case round =>
            obtain ⟨p, rfl, hp, rfl, rfl⟩ := hrel
            by_cases hlp : p < 1000
            · have o2 : W2.cell? ⟨g, D + 1 + p, none⟩ = some (.int .i64 (lo + (df (D + 1 + p) - (D + 1 + p)))) := by
                rw [HBE1.out.cell (p := ⟨g, D + 1 + p, none⟩) hg, HOC.out (D + 1 + p) (by omega)]
                simp only [Option.some.injEq, Value.int.injEq, true_and]
                push_cast
                omega
              have hpi : (D : Int) + 1 + p ≤ D + 1000 := by omega
              have hpb : (D : Int) + 1 + p < 1401 := by omega
              obtain ⟨hd0, hd1⟩ := HDB.out (D + 1 + p) (by omega)
              obtain ⟨hw0, hw1⟩ := HWB.out (D + 1) (by omega) (p - 1) (by omega)
              have HST : Hid (lo + wf (D + 1) (p + 1 - 1) = max (lo + wf (D + 1) (p - 1)) (lo + (df (D + 1 + p) - (D + 1 + p)))) := by
                cases p with
                | zero =>
                  have := HW0.out (D + 1)
                  simp only [Hid, Nat.zero_add, Nat.sub_self, Nat.zero_sub, Int.natCast_zero, Int.add_zero]
                  omega
                | succ p =>
                  have := HWS.out (D + 1) p
                  simp only [Hid, Nat.add_sub_cancel]
                  push_cast
                  omega
              generalize hX : lo + wf (D + 1) (p - 1) = X at *
              generalize hY : lo + (df (D + 1 + p) - (D + 1 + p)) = Y at *
              clear hX hY
              go_wp2
              go_roundw
              case rel =>
                refine ⟨p + 1, by go_num, by omega, ?_, by first | rfl | trivial⟩
                rw [HST.out]
                congr 1
                try (split <;> omega)
              case measure => simp [intOf]; omega
            · have hpi : ¬ (D : Int) + 1 + p ≤ D + 1000 := by omega
              obtain ⟨X, hX⟩ : ∃ X, lo + wf (D + 1) 999 = X := ⟨_, rfl⟩
              have hXp : lo + wf (D + 1) (p - 1) = X := by rw [← hX, show p - 1 = 999 from by omega]
              rw [hXp]
              obtain ⟨hw0, hw1⟩ := HWB.out (D + 1) (by omega) 999 (by omega)
              have HBV : Hid (bf ⟨cost, D, lims⟩ = D + X) := by rw [Hid, HBD.out, ← hX]; simp only []; omega
              have hX0 : -1400 ≤ X := by omega
              have hX1 : X ≤ 20000100 := by omega
              obtain ⟨hs0, hs1⟩ := HND.out q
              obtain ⟨hm0, hm1⟩ := most_bounds HTI.out.ls (k := D + X) (K := 20001000) (by omega) (by decide)
              have HMO := hide (fun (w' : World) (hb' : Below W1.heap.size W2 w') => rMost_any B (.agg #[.int .i64 cost, .int .i64 D, .slice la lims.length lc]) ⟨cost, D, lims⟩ (D + X) w' ⟨_, rfl, HLC.out.later hb' (by omega)⟩ (by have := hb'.size; omega) HTI.out (by omega) (by omega))
              have r0 : W2.cell? ⟨W1.heap.size, 1, none⟩ = some (.slice ba q bc) := HRR.out.cell 1
              generalize hWH : (if (ts.take q).any (fun t => decide (t.due < bf t)) = true then (2 : Int) else 1) = WH at *
              have HWH := hide hWH
              generalize hSm : (ts.take q).foldl (fun s t => s + mostI t (bf t)) 0 = Sm at *
              generalize hM : mostI ⟨cost, D, lims⟩ (D + X) = M at *
              have HSS := hide hSm
              have HMM := hide hM
              have HNEW := hide (new_cells W2 [.int .i64 (D + X)] 3 W2.heap.size rfl)
              have HONE : Hid (∀ u ∈ [Value.int .i64 (D + X)], u.oneCell' = true) := by intro u hu; simp at hu; subst hu; rfl
              clear hX hXp hSm hM hWH o1
              go_wp2_with (at_builtin; go_must (refine wpList_append_own _ rfl _ _ 24 rfl (W1.heap.size + 1) 3 i0 (.int .i64 0) 1 8 Tryz.underlying24 HI.out.1 HI.out.2.1 HI.out.2.2.1 HI.out.2.2.2 rfl (by decide) (.slice ba q bc) q (intsV ((ts.take q).map bf)) rfl (HO.out.alloc _) ⟨W2.heap.size, 0, none⟩ 1 1 [.int .i64 (D + X)] rfl rfl HNEW.out HONE.out (by unfold maxLen; omega) (by omega) (by simp; omega) ?_))
              intro v5 w5 ho5 hg5 _
              have hk5 := KeepBut.grown hg5 (HO.out.alloc _) (Nat.le_refl _)
              have HR5' := hide ((HRR.out.alloc (.cells #[.int .i64 (D + X)] 3)).kept hk5 (by decide))
              have hb5 : Below (W1.heap.size + 1) W2 w5 := ((Below.refl _ _).alloc (by omega) (.cells #[.int .i64 (D + X)] 3)).trans (hk5.below (by simp; omega))
              have HB5' := hide hb5
              obtain ⟨va5, vc5, rfl⟩ := owns_slice ho5
              have HO5 := hide ho5
              have hz5 := hb5.size
              have r1 : w5.cell? ⟨W1.heap.size, 1, none⟩ = some (.slice ba q bc) := HR5'.out.cell 1
              have r1f := HR5'.out.free 1
              clear ho5 hg5 hk5 hb5 r0
              go_wp2_with fail
              have HR6 : Hid (Blk (w5.setCell ⟨W1.heap.size, 1, none⟩ (.slice va5 (q + 1) vc5)) W1.heap.size #[.int .i64 WH, .slice va5 (q + 1) vc5, .int .i64 Sm] 86) := by
                have := HR5'.out.set 1 (.slice va5 (q + 1) vc5)
                simpa [Hid] using this
              have HO6 := hide (owns_other (o := 1) (x := .slice va5 (q + 1) vc5) HO5.out HR5'.out (by decide))
              have HB26 : Hid (Below W1.heap.size W2 (w5.setCell ⟨W1.heap.size, 1, none⟩ (.slice va5 (q + 1) vc5))) := (HB5'.out.mono (by omega)).setCell (by simp) _
              have hz6 : (w5.setCell ⟨W1.heap.size, 1, none⟩ (.slice va5 (q + 1) vc5)).heap.size = w5.heap.size := by simp
              generalize hW6 : w5.setCell ⟨W1.heap.size, 1, none⟩ (.slice va5 (q + 1) vc5) = W6 at *
              have HMO6 := hide (HMO.out W6.drew HB26.out.drew)
              have y5 := (HB26.out.cell (p := ⟨w.heap.size, 5, none⟩) (by simp; omega)).trans k5
              have y6 := (HB26.out.cell (p := ⟨sb, so + q * 3, none⟩) (by simp; omega)).trans k6
              have y7 := (HB26.out.cell (p := ⟨sb, so + q * 3 + 1, none⟩) (by simp; omega)).trans k7
              have y8 := (HB26.out.cell (p := ⟨sb, so + q * 3 + 2, none⟩) (by simp; omega)).trans k8
              have y2 : W6.cell? ⟨W1.heap.size, 2, none⟩ = some (.int .i64 Sm) := HR6.out.cell 2
              have y2f := HR6.out.free 2
              have hz26 := HB26.out.size
              have hz56 : w5.heap.size ≤ W6.heap.size := by omega
              have we1 : IntKind.i64.wrap (D + X) = D + X := IntWalk.i64_in _ ⟨by omega, by omega⟩
              have we2 : IntKind.i64.wrap (Sm + M) = Sm + M := IntWalk.i64_in _ ⟨by omega, by omega⟩
              clear hz6 hW6 r1 r1f k5 k6 k7 k8 k1
              apply wp_someW (fun (w7 : World) => Below W6.heap.size W6 w7)
              case h =>
                go_region_with (go_at_call 65; refine HMO6.out.mono ?_; rintro e w7 ⟨rfl, b7⟩; have z2 := (b7.cell (p := ⟨W1.heap.size, 2, none⟩) (by simp; omega)).trans y2; have z2f := (HR6.out.drew.later b7 (by simp; omega)).free 2; have Hb7 := hide b7; clear b7)
                all_goals exact ⟨w7, undrewB Hb7.out, rfl, rfl⟩
              rintro w7 hb7
              have hz7 := hb7.size
              have HR7 := hide (HR6.out.later hb7 (by omega))
              have HR8 : Hid (Blk (w7.setCell ⟨W1.heap.size, 2, none⟩ (.int .i64 (Sm + M))) W1.heap.size #[.int .i64 WH, .slice va5 (q + 1) vc5, .int .i64 (Sm + M)] 86) := by
                have := HR7.out.set 2 (.int .i64 (Sm + M))
                simpa [Hid] using this
              have HO8 := hide (owns_other (o := 2) (x := .int .i64 (Sm + M)) (owns_below HO6.out hb7) HR7.out (by decide))
              have HB8 : Hid (Below W1.heap.size W1 (w7.setCell ⟨W1.heap.size, 2, none⟩ (.int .i64 (Sm + M)))) := ((HBE1.out.trans HB26.out).trans (hb7.mono (by omega))).setCell (by simp) _
              generalize hW8 : w7.setCell ⟨W1.heap.size, 2, none⟩ (.int .i64 (Sm + M)) = W8 at *
              have c0 : W8.cell? ⟨W1.heap.size, 0, none⟩ = some (.int .i64 WH) := HR8.out.cell 0
              have c0f := HR8.out.free 0
              have HOF : Hid (intsV ((ts.take q).map bf) ++ [.int .i64 (D + X)] = intsV ((ts.take (q + 1)).map bf)) := by
                rw [Hid, HTK.out, List.map_append, intsV, intsV, List.map_append]
                simp only [List.map_cons, List.map_nil, HBV.out]
              have HSF : Hid (Sm + M = (ts.take (q + 1)).foldl (fun s t => s + mostI t (bf t)) 0) := by
                rw [Hid, HTK.out, List.foldl_append, HSS.out]
                simp only [List.foldl_cons, List.foldl_nil, HBV.out, HMM.out]
              have HWF : Hid ((if (ts.take (q + 1)).any (fun t => decide (t.due < bf t)) = true then (2 : Int) else 1) = if 0 < X then 2 else WH) := by
                rw [Hid, HTK.out, List.any_append, ← HWH.out]
                simp only [List.any_cons, List.any_nil, Bool.or_false, Bool.or_eq_true, decide_eq_true_eq, HBV.out]
                by_cases hX : 0 < X
                · rw [if_pos hX, if_pos (.inr (by omega))]
                · rw [if_neg hX]
                  have : ¬ (D : Int) < D + X := by omega
                  simp only [this, or_false]
              clear hW8 hb7 y5 y6 y7 y8 y2 y2f we1 we2
              try simp only []
              by_cases hX : 0 < X
              · go_wp2
                go_roundw
                case rel =>
                  refine ⟨q + 1, va5, vc5, by go_num, by omega, ?_, ?_, HB8.out.setCell (by simp) _⟩
                  · rw [← HOF.out]
                    have h1 := HO8.out
                    rw [← List.map_take] at h1
                    exact owns_other (o := 0) h1 HR8.out (by decide)
                  · rw [HWF.out, if_pos hX, ← HSF.out]
                    have := HR8.out.set 0 (.int .i64 2)
                    simpa using this
                case measure => simp [intOf]; omega
              · go_wp2
                go_roundw
                case rel =>
                  refine ⟨q + 1, va5, vc5, by go_num, by omega, ?_, ?_, HB8.out⟩
                  · rw [← HOF.out]
                    have h1 := HO8.out
                    rw [← List.map_take] at h1
                    exact h1
                  · rw [HWF.out, if_neg hX, ← HSF.out]
                    exact HR8.out
                case measure => simp [intOf]; omega
        · have hqi : ¬ (q : Int) < (n : Int) := by omega
          have hqn : q = n := by omega
          have htk : ts.take q = ts := List.take_of_length_le (by rw [HN.out]; omega)
          rw [htk] at HO HRR
          rw [← HNE.out] at HRR
          rw [hqn] at HO HRR
          have HBW : Hid (Below w.heap.size w wr) := HBE.out.trans (HBE1.out.mono hsz)
          have HRZ := hide (HR.out.later HBE1.out hzr)
          have a0 : wr.cell? ⟨w.heap.size + 1, 0, none⟩ = some (.int .i64 0) := HRZ.out.cell 0
          have a1 : wr.cell? ⟨w.heap.size + 1, 1, none⟩ = some (.slice none 0 0) := HRZ.out.cell 1
          have a2 : wr.cell? ⟨w.heap.size + 1, 2, none⟩ = some (.int .i64 0) := HRZ.out.cell 2
          have a0f := HRZ.out.free 0
          have a1f := HRZ.out.free 1
          have a2f := HRZ.out.free 2
          have r1 : wr.cell? ⟨W1.heap.size, 1, none⟩ = some (.slice ba n bc) := HRR.out.cell 1
          have r2 : wr.cell? ⟨W1.heap.size, 2, none⟩ = some (.int .i64 nd) := HRR.out.cell 2
          have r0f := HRR.out.free 0
          have HOW := hide (owns_lower HO.out (show w.heap.size ≤ W1.heap.size + 1 by omega))
          obtain ⟨hnd0, hnd1⟩ := HND.out n
          clear htk hqn
          by_cases hany : ts.any (fun t => decide (t.due < bf t)) = true
          · have HWE : Hid (wh = 2) := by rw [Hid, HE.out, if_pos hany]
            have HRR2 := HRR; rw [if_pos hany] at HRR2
            have r0 : wr.cell? ⟨W1.heap.size, 0, none⟩ = some (.int .i64 2) := HRR2.out.cell 0
            clear hany
            repeat (first | go_values | go_skip | go_guarded | go_step | go_upon)
            have HF := ((HRZ.out.set 0 (.int .i64 2)).set 1 (.slice ba n bc)).set 2 (.int .i64 nd)
            have HF0 := HF.cell 0
            have HF1 := HF.cell 1
            have HF2 := HF.cell 2
            simp at HF0 HF1 HF2
            refine bodyPost_ret (v := .tuple #[.agg #[.int .i64 2, .slice ba n bc, .int .i64 nd], .int .i64 0]) (by simp [results, Tryz.results34, go_sem, HF0, HF1, HF2]) rfl ⟨ba, bc, by rw [HWE.out], ?_, ?_⟩
            · exact owns_other (owns_other (owns_other (HOW.out) (HRZ.out) (by decide)) (HRZ.out.set 0 _) (by decide)) ((HRZ.out.set 0 _).set 1 _) (by decide)
            · exact (((HBW.out).setCell (by simp) _).setCell (by simp) _).setCell (by simp) _
          · by_cases hroom : x2 < nd
            · have HWE : Hid (wh = 3) := by rw [Hid, HE.out, if_neg hany, if_pos hroom]
              have HRR2 := HRR
              rw [if_neg hany] at HRR2
              have r0 : wr.cell? ⟨W1.heap.size, 0, none⟩ = some (.int .i64 1) := HRR2.out.cell 0
              have HRZ3 := hide (HRZ.out.other (a := ⟨W1.heap.size, 0, none⟩) (by simp; omega) (.int .i64 3))
              have HOW3 := hide (owns_other (o := 0) (x := .int .i64 3) HOW.out HRR.out (by decide))
              have HBW3 : Hid (Below w.heap.size w (wr.setCell ⟨W1.heap.size, 0, none⟩ (.int .i64 3))) := HBW.out.setCell (by simp; omega) _
              clear hany
              repeat (first | go_values | go_skip | go_guarded | go_step | go_upon)
              have HF := ((HRZ3.out.set 0 (.int .i64 3)).set 1 (.slice ba n bc)).set 2 (.int .i64 nd)
              have HF0 := HF.cell 0
              have HF1 := HF.cell 1
              have HF2 := HF.cell 2
              simp at HF0 HF1 HF2
              refine bodyPost_ret (v := .tuple #[.agg #[.int .i64 3, .slice ba n bc, .int .i64 nd], .int .i64 0]) (by simp [results, Tryz.results34, go_sem, HF0, HF1, HF2]) rfl ⟨ba, bc, by rw [HWE.out], ?_, ?_⟩
              · exact owns_other (owns_other (owns_other (HOW3.out) (HRZ3.out) (by decide)) (HRZ3.out.set 0 _) (by decide)) ((HRZ3.out.set 0 _).set 1 _) (by decide)
              · exact (((HBW3.out).setCell (by simp) _).setCell (by simp) _).setCell (by simp) _
            · have HWE : Hid (wh = 1) := by rw [Hid, HE.out, if_neg hany, if_neg hroom]
              have HRR2 := HRR
              rw [if_neg hany] at HRR2
              have r0 : wr.cell? ⟨W1.heap.size, 0, none⟩ = some (.int .i64 1) := HRR2.out.cell 0
              clear hany
              repeat (first | go_values | go_skip | go_guarded | go_step | go_upon)
              have HF := ((HRZ.out.set 0 (.int .i64 1)).set 1 (.slice ba n bc)).set 2 (.int .i64 nd)
              have HF0 := HF.cell 0
              have HF1 := HF.cell 1
              have HF2 := HF.cell 2
              simp at HF0 HF1 HF2
              refine bodyPost_ret (v := .tuple #[.agg #[.int .i64 1, .slice ba n bc, .int .i64 nd], .int .i64 0]) (by simp [results, Tryz.results34, go_sem, HF0, HF1, HF2]) rfl ⟨ba, bc, by rw [HWE.out], ?_, ?_⟩
              · exact owns_other (owns_other (owns_other (HOW.out) (HRZ.out) (by decide)) (HRZ.out.set 0 _) (by decide)) ((HRZ.out.set 0 _).set 1 _) (by decide)
              · exact (((HBW.out).setCell (by simp) _).setCell (by simp) _).setCell (by simp) _

set_option maxRecDepth 100000 in
set_option maxHeartbeats 800000 in
theorem refCheck_no (B : Nat) (v : Value) (c : Cfg) (w : World) (hv : Cf w B v c) (hB : B ≤ w.heap.size) (hok : cfgOk c = false) :
    Calls Tryz.prog 34 #[v] w fun e w' => e = .returned (.tuple #[.agg #[.int .i64 0, .slice none 0 0, .int .i64 0], .int .i64 1]) ∧ Below w.heap.size w w' := by
  have HV := hide hv
  have hv' := hv
  obtain ⟨s, rfl, sa, scap, rfl, hs⟩ := hv'
  clear hs
  have HB0 : Hid (Below w.heap.size w ((w.alloc (.cells #[.int .i64 c.lines, .int .i64 c.room, .int .i64 c.poll, .int .i64 c.idle, .int .i64 c.sw, .slice sa c.tasks.length scap] 40)).alloc (.cells #[.int .i64 0, .slice none 0 0, .int .i64 0] 86))) := ((Below.refl _ _).alloc (Nat.le_refl _) _).alloc (by simp) _
  have HR0 : Hid (Blk ((w.alloc (.cells #[.int .i64 c.lines, .int .i64 c.room, .int .i64 c.poll, .int .i64 c.idle, .int .i64 c.sw, .slice sa c.tasks.length scap] 40)).alloc (.cells #[.int .i64 0, .slice none 0 0, .int .i64 0] 86)) (w.heap.size + 1) #[.int .i64 0, .slice none 0 0, .int .i64 0] 86) := by
    have := Blk.new (w.alloc (.cells #[.int .i64 c.lines, .int .i64 c.room, .int .i64 c.poll, .int .i64 c.idle, .int .i64 c.sw, .slice sa c.tasks.length scap] 40)) #[.int .i64 0, .slice none 0 0, .int .i64 0] 86
    simpa [Hid] using this
  clear hv
  go_enter Tryz.func34, Tryz.ntmps34
  go_wp2_with fail
  refine (refFits_any _ B c _ (HV.out.later HB0.out hB) (by simp; omega)).mono ?_
  rintro e w1 ⟨rfl, q1⟩
  have hz1 := q1.size
  simp only [World.size_alloc] at hz1
  have HB1 : Hid (Below w.heap.size w w1) := HB0.out.trans (q1.mono (by simp; omega))
  have HR1 := hide (HR0.out.later q1 (by simp))
  clear q1
  rw [hok]
  have a0 : w1.cell? ⟨w.heap.size + 1, 0, none⟩ = some (.int .i64 0) := HR1.out.cell 0
  have a0f := HR1.out.free 0
  have a1 : w1.cell? ⟨w.heap.size + 1, 1, none⟩ = some (.slice none 0 0) := HR1.out.cell 1
  have a1f := HR1.out.free 1
  have a2 : w1.cell? ⟨w.heap.size + 1, 2, none⟩ = some (.int .i64 0) := HR1.out.cell 2
  have a2f := HR1.out.free 2
  simp only []
  repeat (first | go_values | go_skip | go_guarded | go_step | go_upon)
  have HF := ((HR1.out.set 0 (.int .i64 0)).set 1 (.slice none 0 0)).set 2 (.int .i64 0)
  have HF0 := HF.cell 0
  have HF1 := HF.cell 1
  have HF2 := HF.cell 2
  simp at HF0 HF1 HF2
  exact bodyPost_ret (v := .tuple #[.agg #[.int .i64 0, .slice none 0 0, .int .i64 0], .int .i64 1]) (by simp [results, Tryz.results34, go_sem, HF0, HF1, HF2]) rfl ⟨rfl, ((HB1.out.setCell (by simp) _).setCell (by simp) _).setCell (by simp) _⟩

theorem refCheck_any (B : Nat) (v : Value) (c : Cfg) (w : World) (hv : Cf w B v c) (hB : B ≤ w.heap.size) :
    Calls Tryz.prog 34 #[v] w fun e w' => ∃ a cap, e = .returned (.tuple #[.agg #[.int .i64 (ckWhat c), .slice a (ckBounds c).length cap, .int .i64 (ckNeed c)], .int .i64 (ckErr c)]) ∧ w'.ownsRow w.heap.size 3 1 (.slice a (ckBounds c).length cap) (ckBounds c).length (intsV (ckBounds c)) ∧ Below w.heap.size w w' := by
  cases hok : cfgOk c with
  | true =>
    refine (refCheck_yes B v c w hv hB hok).mono ?_
    rintro e w' ⟨a, cap, rfl, ho, hq⟩
    refine ⟨a, cap, by simp [ckWhat, ckBounds, ckNeed, ckErr, hok], ?_, hq⟩
    simpa [ckBounds, hok] using ho
  | false =>
    refine (refCheck_no B v c w hv hB hok).mono ?_
    rintro e w' ⟨rfl, hq⟩
    refine ⟨none, 0, by simp [ckWhat, ckBounds, ckNeed, ckErr, hok], ?_, hq⟩
    simpa [ckBounds, hok, intsV] using World.ownsRow_nil w' w.heap.size 3 1

end Go.Proofs.YthloffgebebijaaGreat
