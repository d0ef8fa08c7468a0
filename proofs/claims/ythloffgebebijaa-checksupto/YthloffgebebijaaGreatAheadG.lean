/- AheadG: the walks of package ahead's Report and of tiller's Check. -/
import Derived.Test.YthloffgebebijaaGreatAheadF
import Derived.Test.YthloffgebebijaaGreatReadB
import Derived.Test.YthloffgebebijaaGreatValidB
import Derived.Test.YthloffgebebijaaGreatSetA
import Derived.Test.YthloffgebebijaaGreatBookI
import Derived.Test.YthloffgebebijaaGreatBytesB
import Derived.Test.YthloffgebebijaaGreatLentA
namespace Go.Proofs.YthloffgebebijaaGreat
open Go.RowKit

theorem madeI (n : Nat) : (madeCells #[.int .i64 0] n).toList = List.replicate n (.int .i64 0) := by
  apply List.ext_getElem?
  intro i
  by_cases h : i < n
  · rw [List.getElem?_replicate, if_pos h]
    simp [madeCells, h, Nat.mod_one]
  · rw [List.getElem?_eq_none (by simp [madeCells]; omega), List.getElem?_eq_none (by simp; omega)]

theorem CfIn.of {c : Cfg} (h : cfgOk c = true) : CfIn c := by
  obtain ⟨h1, h2, h3, h4, h5, h6, h7⟩ := cfgOk_parts h
  exact ⟨h3.1, h3.2, h4.1, h4.2, h5.1, h5.2, h6.1, h6.2, fun t ht => TkIn.of (List.all_eq_true.1 h7 t ht), h2.1, h2.2⟩

theorem CfC.upC {w : World} {B B' : Nat} {v : Value} {c : Cfg} (h : CfC w B v c) (hle : B ≤ B') : CfC w B' v c := by
  obtain ⟨s, hv, a, cap, hs, h⟩ := h
  refine ⟨s, hv, a, cap, hs, h.imp id fun ⟨b, o, ha, hb, hc⟩ => ⟨b, o, ha, by omega, fun i t hi => ?_⟩⟩
  obtain ⟨h1, h2, s', h3, a', c', h4, h5, h6⟩ := hc i t hi
  exact ⟨h1, h2, s', h3, a', c', h4, h5, h6.imp id fun ⟨b', o', e1, e2, e3⟩ => ⟨b', o', e1, by omega, e3⟩⟩

def intsV (xs : List Int) : List Value := xs.map (Value.int .i64)

set_option maxRecDepth 100000 in
set_option maxHeartbeats 3200000 in
theorem report_any (B : Nat) (v : Value) (c : Cfg) (w : World) (hv : CfC w B v c) (hB : B ≤ w.heap.size) (hc : CfIn c) :
    Calls Tryz.prog 62 #[v] w fun e w' => ∃ g, e = .returned (.agg #[.int .i64 (whatI c), .slice (some ⟨g, 0, none⟩) c.tasks.length c.tasks.length, .int .i64 (needI c)]) ∧ w.heap.size ≤ g ∧ Blk w' g (intsV (c.tasks.map (boundI c))).toArray 3 ∧ Below w.heap.size w w' := by
  have HCI := hide hc
  have HV := hide hv
  have HBD : Hid (∀ t, TkIn t → -1400 ≤ boundI c t ∧ boundI c t ≤ 20001000) := fun t ht => bound_bounds hc ht
  have HND := hide (fun k => need_take hc k)
  have HNE : Hid (needI c = c.tasks.foldl (fun s t => s + mostI t (boundI c t)) 0) := rfl
  have HBO := hide (fun (w' : World) (hb' : Below w.heap.size w w') (vt : Value) (t : Tk) (hvt : TaskC w' B vt t) (ht : TkIn t) => aBound_any B v vt c t w' (hv.later hb' hB) hvt (by have := hb'.size; omega) hc ht)
  have HVE := hide (fun (w' : World) (hb' : Below w.heap.size w w') (B' : Nat) (hB' : B' ≤ w'.heap.size) (hBB : B ≤ B') (bv : Value) (hbv : IntsR w' B' bv (c.tasks.map (boundI c))) => aVerdict_any B' v bv c (needI c) w' ((hv.later hb' hB).upC hBB) hbv hB' hc rfl)
  obtain ⟨i0, hi, hz0, hzs, hzb⟩ := info_parts info_int
  have HI := hide (And.intro hi (And.intro hz0 (And.intro hzs hzb)))
  obtain ⟨s, rfl, sa, scap, rfl, hs⟩ := hv
  have hn := hc.n2
  have HC := hide hs
  have HTS : Hid (∀ t ∈ c.tasks, TkIn t) := hc.ts
  generalize hbf : boundI c = bf at *
  generalize hwh : whatI c = wh at *
  generalize hnd : needI c = nd at *
  clear hbf hwh hnd hi hz0 hzs hzb
  obtain ⟨x1, x2, x3, x4, x5, ts⟩ := c
  simp only at hn HND HNE HBO HVE HC HTS HV ⊢
  generalize hN : ts.length = n at *
  have HN := hide hN
  clear hN hs hc
  go_enter Tryz.func62, Tryz.ntmps62
  go_wp2_with (at_make; go_must (refine wpList_make_full _ rfl _ _ 24 rfl w.heap.size 3 i0 _ 1 Tryz.underlying24 HI.out.1 HI.out.2.1 HI.out.2.2.1 .i64 .i64 _ _ n rfl rfl rfl rfl ?_ ?_ ?_ ?_))
  · rw [HI.out.2.2.2]; omega
  · unfold maxLen; omega
  · simp; omega
  intro w4 o4 g4
  obtain ⟨L4, hg0⟩ := own_blk o4
  rw [madeI n] at L4
  have HB4 : Hid (Below w.heap.size w w4) := (show Below w.heap.size w ((w.alloc (.cells #[.int .i64 x1, .int .i64 x2, .int .i64 x3, .int .i64 x4, .int .i64 x5, .slice sa n scap] 40)).alloc (.cells #[.int .i64 0, .slice none 0 0, .int .i64 0] 86)) from ((Below.refl _ _).alloc (Nat.le_refl _) _).alloc (by simp) _).trans ⟨g4.os, g4.tape, g4.output, g4.size, fun k hk => g4.block k (by simp; omega) (by simp)⟩
  have K4 : Blk w4 w.heap.size #[.int .i64 x1, .int .i64 x2, .int .i64 x3, .int .i64 x4, .int .i64 x5, .slice sa n scap] 40 := Blk.grownRow ((Blk.new w #[.int .i64 x1, .int .i64 x2, .int .i64 x3, .int .i64 x4, .int .i64 x5, .slice sa n scap] 40).alloc (.cells #[.int .i64 0, .slice none 0 0, .int .i64 0] 86)) g4 (by simp)
  have R4 : Blk w4 (w.heap.size + 1) #[.int .i64 0, .slice none 0 0, .int .i64 0] 86 := Blk.grownRow (by simpa using Blk.new (w.alloc (.cells #[.int .i64 x1, .int .i64 x2, .int .i64 x3, .int .i64 x4, .int .i64 x5, .slice sa n scap] 40)) #[.int .i64 0, .slice none 0 0, .int .i64 0] 86) g4 (by simp)
  generalize hG : w.heap.size + 1 + 1 = G at *
  have hGw : w.heap.size + 1 < G := by omega
  have HL4 := hide L4; have HK4 := hide K4; have HR4 := hide R4
  have k5 : w4.cell? ⟨w.heap.size, 5, none⟩ = some (.slice sa n scap) := K4.cell 5
  have hz4 := L4.lt
  clear hG o4 g4 L4 K4 R4 hg0
  go_wp2_with fail
  go_loopw [4, 14] (fun nd i wr => ∃ q : Nat, i = .int .i64 q ∧ q ≤ n ∧ nd = .int .i64 ((ts.take q).foldl (fun s t => s + mostI t (bf t)) 0) ∧ Blk wr G (intsV ((ts.take q).map bf) ++ List.replicate (n - q) (Value.int .i64 0)).toArray 3 ∧ Below w.heap.size w wr ∧ Blk wr w.heap.size #[.int .i64 x1, .int .i64 x2, .int .i64 x3, .int .i64 x4, .int .i64 x5, .slice sa n scap] 40 ∧ Blk wr (w.heap.size + 1) #[.int .i64 0, .slice none 0 0, .int .i64 0] 86) (fun _ i _ => n - (intOf i).toNat)
  case atStart => exact ⟨0, rfl, Nat.zero_le _, by simp, by simpa [intsV] using HL4.out, HB4.out, HK4.out, HR4.out⟩
  case round =>
    obtain ⟨q, rfl, hq, rfl, hL, hbe, hk, hr⟩ := hrel
    have HL := hide hL; have HBE := hide hbe; have HK := hide hk; have HR := hide hr
    have hsz := hbe.size
    have hzG := hL.lt
    obtain ⟨hnd0, hnd1⟩ := HND.out q
    have k0 : wr.cell? ⟨w.heap.size, 0, none⟩ = some (.int .i64 x1) := hk.cell 0
    have k1 : wr.cell? ⟨w.heap.size, 1, none⟩ = some (.int .i64 x2) := hk.cell 1
    have k2 : wr.cell? ⟨w.heap.size, 2, none⟩ = some (.int .i64 x3) := hk.cell 2
    have k3 : wr.cell? ⟨w.heap.size, 3, none⟩ = some (.int .i64 x4) := hk.cell 3
    have k4 : wr.cell? ⟨w.heap.size, 4, none⟩ = some (.int .i64 x5) := hk.cell 4
    have k5 : wr.cell? ⟨w.heap.size, 5, none⟩ = some (.slice sa n scap) := hk.cell 5
    clear hL hbe hk hr
    by_cases hlt : q < n
    · obtain ⟨t, hg⟩ := get_of_lt (l := ts) (k := q) (by rw [HN.out]; exact hlt)
      have hti := HTS.out t (List.mem_of_getElem? hg)
      have HTI := hide hti
      rcases HC.out with he | ⟨sb, so, rfl, hsb, hsc⟩
      · rw [he] at hg; simp at hg
      obtain ⟨d0, d1, sl, d2, hls⟩ := (hsc q _ hg).later HBE.out hB (by omega)
      have HTK := hide (take_snoc hg)
      obtain ⟨hbd0, hbd1⟩ := HBD.out t hti
      have hmb := most_bounds hti.ls hbd1 (by decide)
      obtain ⟨hmb0, hmb1⟩ := hmb
      obtain ⟨cost, due, lims⟩ := t
      simp only at d0 d1 hls
      have HLC := hide hls
      obtain ⟨la, lc, rfl, _, _⟩ := hls
      have hqi : (q : Int) < (n : Int) := by omega
      have hsbw : sb < wr.heap.size := by omega
      have hwz : w.heap.size < wr.heap.size := by omega
      have HBA : Hid (Below wr.heap.size wr (wr.alloc (.cells #[.int .i64 cost, .int .i64 due, .slice la lims.length lc] 55))) := (Below.refl _ _).alloc (Nat.le_refl _) _
      have HBOr := hide (HBO.out (wr.alloc (.cells #[.int .i64 cost, .int .i64 due, .slice la lims.length lc] 55)) (HBE.out.trans (HBA.out.mono hsz)) (.agg #[.int .i64 cost, .int .i64 due, .slice la lims.length lc]) ⟨cost, due, lims⟩ ⟨_, rfl, HLC.out.later HBA.out (by omega)⟩ HTI.out)
      have HMO := hide (fun (w' : World) (hb' : Below wr.heap.size wr w') => most_any B (.agg #[.int .i64 cost, .int .i64 due, .slice la lims.length lc]) ⟨cost, due, lims⟩ (bf ⟨cost, due, lims⟩) w' ⟨_, rfl, HLC.out.later hb' (by omega)⟩ (by have := hb'.size; omega) HTI.out (by omega) (by omega))
      generalize hSm : (ts.take q).foldl (fun s t => s + mostI t (bf t)) 0 = Sm at *
      generalize hM : mostI ⟨cost, due, lims⟩ (bf ⟨cost, due, lims⟩) = M at *
      generalize hBv : bf ⟨cost, due, lims⟩ = Bv at *
      have HSS := hide hSm
      have HMM := hide hM
      have HBV := hide hBv
      have we2 : IntKind.i64.wrap (Sm + M) = Sm + M := IntWalk.i64_in _ ⟨by omega, by omega⟩
      obtain ⟨r, hr⟩ : ∃ r, n - q = r + 1 := ⟨n - q - 1, by omega⟩
      have hl := HL.out
      rw [hr] at hl
      have hlen : (intsV ((ts.take q).map bf)).length = q := by rw [intsV, List.length_map, List.length_map, List.length_take, HN.out]; omega
      have HLEN := hide hlen
      have HR1 := hide hr
      have hcell : (intsV ((ts.take q).map bf) ++ List.replicate (r + 1) (Value.int .i64 0))[q]? = some (.int .i64 0) := by rw [List.getElem?_append_right (by omega), hlen]; simp
      have HCE := hide hcell
      have HLq := hide hl
      clear hg hM hSm hBv hsc hl hlen hcell hr
      go_wp2_with fail
      refine HBOr.out.mono ?_
      rintro e w3 ⟨rfl, q3⟩
      have hz3 := q3.size
      simp only [World.size_alloc] at hz3
      have HQ3 : Hid (Below wr.heap.size wr w3) := HBA.out.trans (q3.mono (by simp))
      have HT3 := hide ((Blk.new wr #[.int .i64 cost, .int .i64 due, .slice la lims.length lc] 55).later q3 (by simp))
      have HL3 := hide (HLq.out.later HQ3.out hzG)
      have HK3 := hide (HK.out.later HQ3.out (by omega))
      have HR3 := hide (HR.out.later HQ3.out (by omega))
      have gq : w3.cell? ⟨G, q, none⟩ = some (.int .i64 0) := by rw [HL3.out.cell, List.getElem?_toArray]; exact HCE.out
      have gqf := HL3.out.free q
      clear q3 k0 k1 k2 k3 k4 k5 d0 d1 d2
      go_wp2_with fail
      have HLs := hide (HL3.out.set q (.int .i64 Bv))
      have HTs : Hid (Blk (w3.setCell ⟨G, q, none⟩ (.int .i64 Bv)) wr.heap.size #[.int .i64 cost, .int .i64 due, .slice la lims.length lc] 55) := HT3.out.other (by simp; omega) _
      have HKs : Hid (Blk (w3.setCell ⟨G, q, none⟩ (.int .i64 Bv)) w.heap.size #[.int .i64 x1, .int .i64 x2, .int .i64 x3, .int .i64 x4, .int .i64 x5, .slice (some ⟨sb, so, none⟩) n scap] 40) := HK3.out.other (by simp; omega) _
      have HRs : Hid (Blk (w3.setCell ⟨G, q, none⟩ (.int .i64 Bv)) (w.heap.size + 1) #[.int .i64 0, .slice none 0 0, .int .i64 0] 86) := HR3.out.other (by simp; omega) _
      have HBs : Hid (Below w.heap.size w (w3.setCell ⟨G, q, none⟩ (.int .i64 Bv))) := (HBE.out.trans (HQ3.out.mono hsz)).setCell (by simp; omega) _
      have hzs : (w3.setCell ⟨G, q, none⟩ (.int .i64 Bv)).heap.size = w3.heap.size := by simp
      have v0 : (w3.setCell ⟨G, q, none⟩ (.int .i64 Bv)).cell? ⟨G, q, none⟩ = some (.int .i64 Bv) := by rw [HLs.out.cell]; exact get_set_self (by have := lt_of_get HCE.out; simpa using this)
      have v1 : (w3.setCell ⟨G, q, none⟩ (.int .i64 Bv)).cell? ⟨wr.heap.size, 0, none⟩ = some (.int .i64 cost) := HTs.out.cell 0
      have v2 : (w3.setCell ⟨G, q, none⟩ (.int .i64 Bv)).cell? ⟨wr.heap.size, 1, none⟩ = some (.int .i64 due) := HTs.out.cell 1
      have v3 : (w3.setCell ⟨G, q, none⟩ (.int .i64 Bv)).cell? ⟨wr.heap.size, 2, none⟩ = some (.slice la lims.length lc) := HTs.out.cell 2
      have HMOs : Hid (Calls Tryz.prog 83 #[.agg #[.int .i64 cost, .int .i64 due, .slice la lims.length lc], .int .i64 Bv] (w3.setCell ⟨G, q, none⟩ (.int .i64 Bv)).drew fun e w' => e = .returned (.int .i64 M) ∧ Below (w3.setCell ⟨G, q, none⟩ (.int .i64 Bv)).drew.heap.size (w3.setCell ⟨G, q, none⟩ (.int .i64 Bv)).drew w') := by
        have h1 := most_any B (.agg #[.int .i64 cost, .int .i64 due, .slice la lims.length lc]) ⟨cost, due, lims⟩ Bv (w3.setCell ⟨G, q, none⟩ (.int .i64 Bv)).drew ⟨_, rfl, (HLC.out.later HQ3.out (by omega)).later (B' := w.heap.size) (((Below.refl _ _).setCell (by simp; omega) _).drew) hB⟩ (by simp; omega) HTI.out (by omega) (by omega)
        rw [HMM.out] at h1
        exact h1
      generalize hWs : w3.setCell ⟨G, q, none⟩ (.int .i64 Bv) = Ws at *
      clear hWs gq gqf
      go_region_held3 (fun w' => w'.cell? ⟨G, q, none⟩ = some (.int .i64 Bv) ∧ w'.cell? ⟨wr.heap.size, 0, none⟩ = some (.int .i64 cost) ∧ w'.cell? ⟨wr.heap.size, 1, none⟩ = some (.int .i64 due) ∧ w'.cell? ⟨wr.heap.size, 2, none⟩ = some (.slice la lims.length lc)) (first | exact ⟨v0, v1, v2, v3⟩ | exact ⟨z0, z1, z2, z3⟩)
        (first | (go_at_call 83; refine HMOs.out.mono ?_; rintro e w5 ⟨rfl, b5⟩; have z0 := (b5.cell (p := ⟨G, q, none⟩) (by simp; omega)).trans v0; have z1 := (b5.cell (p := ⟨wr.heap.size, 0, none⟩) (by simp; omega)).trans v1; have z2 := (b5.cell (p := ⟨wr.heap.size, 1, none⟩) (by simp; omega)).trans v2; have z3 := (b5.cell (p := ⟨wr.heap.size, 2, none⟩) (by simp; omega)).trans v3; have HB5 := hide b5; clear b5))
      have HQ5 := hide (undrewB HB5.out)
      go_wp2
      go_roundw
      case rel =>
        refine ⟨q + 1, by go_num, by omega, ?_, ?_, HBs.out.trans (HQ5.out.mono (by omega)), HKs.out.later HQ5.out (by omega), HRs.out.later HQ5.out (by omega)⟩
        · rw [HTK.out, List.foldl_append, HSS.out]
          show Value.int .i64 _ = Value.int .i64 (Sm + mostI ⟨cost, due, lims⟩ (bf ⟨cost, due, lims⟩))
          rw [HBV.out, HMM.out]
        · have h1 := HLs.out.later HQ5.out (by omega)
          rw [HTK.out, List.map_append, intsV, List.map_append, show n - (q + 1) = r from by have := HR1.out; omega]
          have h2 := set_next (a := Value.int .i64 Bv) (b := Value.int .i64 0) (r := r) HLEN.out
          simp only [List.map_cons, List.map_nil, HBV.out]
          unfold intsV at h1 h2
          rw [← h2]
          simpa using h1
      case measure => simp [intOf]; omega
    · have hqi : ¬ (q : Int) < (n : Int) := by omega
      have hqn : q = n := by omega
      have HLf : Hid (Blk wr G (intsV (ts.map bf)).toArray 3) := by
        have := HL.out
        rw [hqn, List.take_of_length_le (by rw [HN.out]; omega)] at this
        simpa [Hid] using this
      have HNf : Hid ((ts.take q).foldl (fun s t => s + mostI t (bf t)) 0 = nd) := by rw [Hid, HNE.out, List.take_of_length_le (by rw [HN.out]; omega)]
      rw [HNf.out]
      have HVEr := hide (HVE.out wr HBE.out wr.heap.size (Nat.le_refl _) (by omega) (.slice (some ⟨G, 0, none⟩) n n) ⟨_, n, by rw [List.length_map, HN.out], .inr ⟨G, 0, rfl, hzG, fun i x hi => by
        rw [Nat.zero_add, HLf.out.cell, intsV, List.getElem?_toArray, List.getElem?_map, hi]; rfl⟩⟩)
      go_wp2_with fail
      refine HVEr.out.mono ?_
      rintro e w5 ⟨rfl, q5⟩
      have HR5 := HR.out.later q5 (by omega)
      have HL5 := hide (HLf.out.later q5 hzG)
      have HB5 := hide (HBE.out.trans (q5.mono hsz))
      have a0 : w5.cell? ⟨w.heap.size + 1, 0, none⟩ = some (.int .i64 0) := HR5.cell 0
      have a1 : w5.cell? ⟨w.heap.size + 1, 1, none⟩ = some (.slice none 0 0) := HR5.cell 1
      have a2 : w5.cell? ⟨w.heap.size + 1, 2, none⟩ = some (.int .i64 0) := HR5.cell 2
      have a0f := HR5.free 0
      have a1f := HR5.free 1
      have a2f := HR5.free 2
      have HRR := hide HR5
      clear q5 HR5 k0 k1 k2 k3 k4 k5
      simp only []
      repeat (first | go_values | go_skip | go_guarded | go_step | go_upon)
      have HF := ((HRR.out.set 0 (.int .i64 wh)).set 1 (.slice (some ⟨G, 0, none⟩) n n)).set 2 (.int .i64 nd)
      have HF0 := HF.cell 0
      have HF1 := HF.cell 1
      have HF2 := HF.cell 2
      simp at HF0 HF1 HF2
      exact bodyPost_ret (v := .agg #[.int .i64 wh, .slice (some ⟨G, 0, none⟩) n n, .int .i64 nd]) (by simp [results, Tryz.results62, go_sem, HF0, HF1, HF2]) rfl ⟨G, rfl, by omega, ((HL5.out.other (by simp; omega) _).other (by simp; omega) _).other (by simp; omega) _, ((HB5.out.setCell (by simp) _).setCell (by simp) _).setCell (by simp) _⟩

end Go.Proofs.YthloffgebebijaaGreat
