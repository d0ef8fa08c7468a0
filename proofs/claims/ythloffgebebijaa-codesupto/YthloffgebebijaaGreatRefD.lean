/- RefD: the walk of the reference's Decode: it answers what the program answers. -/
import Derived.Test.YthloffgebebijaaGreatRefC
import Derived.Test.YthloffgebebijaaGreatSetA
import Derived.Test.YthloffgebebijaaGreatBookB
import Derived.Test.YthloffgebebijaaGreatStr
import Derived.Deep.RegionLaw
import Derived.Deep.DeepMust
namespace Go.Proofs.YthloffgebebijaaGreat
open Go.RowKit

/-- What the reference's Decode answers: a value that reads so. -/
def RefPost (w w' : World) (e : Ending) : Option Cfg → Prop
  | none => e = .returned (.tuple #[zeroCfg, .int .i64 2]) ∧ Below w.heap.size w w'
  | some c => ∃ v, e = .returned (.tuple #[v, .int .i64 0]) ∧ Cf w' w'.heap.size v c ∧ Below w.heap.size w w'

set_option maxRecDepth 100000 in
set_option maxHeartbeats 3200000 in
theorem refDecode_any (B : Nat) (v : Value) (bs : List Int) (w : World) (h : Rd8 w B v bs) (hB : B ≤ w.heap.size) (hb : AllB bs) (hlen : bs.length ≤ 1000000000) :
    Calls Tryz.prog 30 #[v] w fun e w' => RefPost w w' e (dec bs) := by
  have HH := hide h
  have HB := hide hb
  have HD := hide (dec_eq_ref hb)
  have HAT : Hid (∀ (i : Nat) (j : Int) (w' : World), Below w.heap.size w w' → j = i → Calls Tryz.prog 58 #[v, .int .i64 j] w' fun e w'' => e = .returned (.int .i64 (atI bs i)) ∧ w' = w'') := fun i j w' hb' hj => refAt_any B v bs i j w' (HH.out.later hb' hB) hb (by omega) hj
  obtain ⟨i0, hi, hz0, hzs, hzb⟩ := info_parts info_limit
  have HI := hide (And.intro hi (And.intro hz0 (And.intro hzs hzb)))
  obtain ⟨i1, hi1, hy0, hys, hyb⟩ := info_parts info_task
  have HI1 := hide (And.intro hi1 (And.intro hy0 (And.intro hys hyb)))
  clear hi hz0 hzs hzb hi1 hy0 hys hyb
  obtain ⟨va, vcap, rfl, hcap, hv⟩ := h
  have HX : Hid (refCfg bs = ⟨atI bs 1, atI bs 2, atI bs 3, atI bs 4, atI bs 5, (refTasks bs (atI bs 6).toNat 7).1⟩) := rfl
  have h6 := atI_bounds hb 6
  have hb0 : ∀ o, Below w.heap.size w (w.alloc o) := fun o => (Below.refl _ _).alloc (Nat.le_refl _) _
  have HB0 := hide hb0
  have HAB : Hid (∀ i, 0 ≤ atI bs i ∧ atI bs i < 256) := fun i => atI_bounds hb i
  generalize hn : bs.length = n at *
  have HN := hide hn
  clear hn hv hb hb0
  go_enter Tryz.func30, Tryz.ntmps30
  go_wp2_with fail
  refine (HAT.out 1 _ _ (HB0.out _) rfl).mono ?_
  rintro e w' ⟨rfl, rfl⟩
  go_wp2_with fail
  refine (HAT.out 2 _ _ (HB0.out _) rfl).mono ?_
  rintro e w' ⟨rfl, rfl⟩
  go_wp2_with fail
  refine (HAT.out 3 _ _ (HB0.out _) rfl).mono ?_
  rintro e w' ⟨rfl, rfl⟩
  go_wp2_with fail
  refine (HAT.out 4 _ _ (HB0.out _) rfl).mono ?_
  rintro e w' ⟨rfl, rfl⟩
  go_wp2_with fail
  refine (HAT.out 5 _ _ (HB0.out _) rfl).mono ?_
  rintro e w' ⟨rfl, rfl⟩
  go_wp2_with fail
  generalize hx1 : atI bs 1 = x1 at *
  generalize hx2 : atI bs 2 = x2 at *
  generalize hx3 : atI bs 3 = x3 at *
  generalize hx4 : atI bs 4 = x4 at *
  generalize hx5 : atI bs 5 = x5 at *
  clear hx1 hx2 hx3 hx4 hx5
  obtain ⟨h60, h61⟩ := h6
  obtain ⟨N, hN⟩ : ∃ N : Nat, atI bs 6 = N := ⟨(atI bs 6).toNat, by omega⟩
  have hN256 : N < 256 := by omega
  have HN6 := hide hN
  rw [hN, Int.toNat_natCast] at HX
  clear hN h60 h61
  go_loopw [5, 6] (fun i nn wr => ∃ (a r p : Nat) (done : List Tk) (tva : Option Addr) (tvc : Nat), i = .int .i64 p ∧ nn = .int .i64 a ∧ a + r = N ∧ p ≤ n + 7 ∧ refTasks bs N 7 = (done ++ (refTasks bs r p).1, (refTasks bs r p).2) ∧ done.length = a ∧ OwnT wr w.heap.size (.slice tva done.length tvc) done ∧ Below w.heap.size w wr ∧ Blk wr w.heap.size #[.int .i64 0, .int .i64 0, .int .i64 0, .int .i64 0, .int .i64 0, .slice none 0 0] 40 ∧ Blk wr (w.heap.size + 1) #[.int .i64 x1, .int .i64 x2, .int .i64 x3, .int .i64 x4, .int .i64 x5, .slice tva done.length tvc] 40) (fun _ nn _ => N - (intOf nn).toNat)
  case atStart =>
    refine ⟨0, N, 7, [], none, 0, rfl, rfl, by omega, by omega, by simp, rfl, ⟨[], by simpa [flat3] using World.ownsRow_nil _ _ _ _, rfl, by simp⟩, (HB0.out _).alloc (by simp) _, (Blk.new _ _ _).alloc _, ?_⟩
    have := Blk.new (w.alloc (.cells #[.int .i64 0, .int .i64 0, .int .i64 0, .int .i64 0, .int .i64 0, .slice none 0 0] 40)) #[.int .i64 x1, .int .i64 x2, .int .i64 x3, .int .i64 x4, .int .i64 x5, .slice none 0 0] 40
    simpa using this
  case round =>
    obtain ⟨a, r, p, done, tva, tvc, rfl, rfl, har, hp, hrt, hdl, hot, hbe, hA, hC⟩ := hrel
    have HAR := hide har; have HRT := hide hrt; have HDL := hide hdl; have HOT := hide hot; have HBE := hide hbe; have HA := hide hA; have HC := hide hC
    have hsz := hbe.size
    have hzc := hC.lt
    clear har hrt hdl hot hbe hA hC
    cases r with
    | zero =>
      have ha : ¬ a < N := by have := HAR.out; omega
      have hfin : refTasks bs N 7 = (done, p) := by rw [HRT.out]; simp [refTasks]
      go_wp2_with fail
      refine (HAT.out 6 _ _ HBE.out rfl).mono ?_
      rintro e w' ⟨rfl, rfl⟩
      rw [HN6.out]
      have HCFG : Hid (refCfg bs = ⟨x1, x2, x3, x4, x5, done⟩) := by rw [Hid, HX.out, hfin]
      clear hfin
      have b0 : wr.cell? ⟨w.heap.size + 1, 0, none⟩ = some (.int .i64 x1) := HC.out.cell 0
      have b1 : wr.cell? ⟨w.heap.size + 1, 1, none⟩ = some (.int .i64 x2) := HC.out.cell 1
      have b2 : wr.cell? ⟨w.heap.size + 1, 2, none⟩ = some (.int .i64 x3) := HC.out.cell 2
      have b3 : wr.cell? ⟨w.heap.size + 1, 3, none⟩ = some (.int .i64 x4) := HC.out.cell 3
      have b4 : wr.cell? ⟨w.heap.size + 1, 4, none⟩ = some (.int .i64 x5) := HC.out.cell 4
      have b5 : wr.cell? ⟨w.heap.size + 1, 5, none⟩ = some (.slice tva done.length tvc) := HC.out.cell 5
      have HCF : Hid (Cf wr wr.heap.size (.agg #[.int .i64 x1, .int .i64 x2, .int .i64 x3, .int .i64 x4, .int .i64 x5, .slice tva done.length tvc]) ⟨x1, x2, x3, x4, x5, done⟩) := ⟨_, rfl, HOT.out.tasks⟩
      go_wp2_with fail
      by_cases hok : cfgOk ⟨x1, x2, x3, x4, x5, done⟩ = true
      · refine (refEncode_yes wr.heap.size _ ⟨x1, x2, x3, x4, x5, done⟩ wr HCF.out (Nat.le_refl _) hok).mono ?_
        rintro e w5 ⟨v5, rfl, o5, q5⟩
        have HA5 := HA.out.later q5 (by omega)
        have HC5 := HC.out.later q5 hzc
        have hcv1 := conv_rd8 o5.rd
        have hcv2 := conv_rd8 (HH.out.later (HBE.out.trans (q5.mono hsz)) hB)
        have hz5 := q5.size
        have HBF := hide (HBE.out.trans (q5.mono hsz))
        have HOT5 := hide (HOT.out.below q5)
        have HCF5 := hide (HCF.out.later q5 (Nat.le_refl _))
        have HA5' := hide HA5
        have HC5' := hide HC5
        have HBY := hide (cfgBytes_allB hok)
        obtain ⟨xa, xc, hx5⟩ := o5.slice
        subst hx5
        generalize hL5 : (cfgBytes ⟨x1, x2, x3, x4, x5, done⟩).length = L5 at *
        clear hL5
        by_cases heq : cfgBytes ⟨x1, x2, x3, x4, x5, done⟩ = bs
        · have HDS : Hid (dec bs = some ⟨x1, x2, x3, x4, x5, done⟩) := by rw [Hid, HD.out, HCFG.out, if_pos ⟨hok, heq⟩]
          rw [heq] at hcv1
          generalize hst : strOfNums bs = st at *
          clear hst heq o5 q5
          have d0 : w5.cell? ⟨w.heap.size + 1, 0, none⟩ = some (.int .i64 x1) := HC5.cell 0
          have d1 : w5.cell? ⟨w.heap.size + 1, 1, none⟩ = some (.int .i64 x2) := HC5.cell 1
          have d2 : w5.cell? ⟨w.heap.size + 1, 2, none⟩ = some (.int .i64 x3) := HC5.cell 2
          have d3 : w5.cell? ⟨w.heap.size + 1, 3, none⟩ = some (.int .i64 x4) := HC5.cell 3
          have d4 : w5.cell? ⟨w.heap.size + 1, 4, none⟩ = some (.int .i64 x5) := HC5.cell 4
          have d5 : w5.cell? ⟨w.heap.size + 1, 5, none⟩ = some (.slice tva done.length tvc) := HC5.cell 5
          have ac0 : w5.cell? ⟨w.heap.size, 0, none⟩ = some (.int .i64 0) := HA5.cell 0
          have ac1 : w5.cell? ⟨w.heap.size, 1, none⟩ = some (.int .i64 0) := HA5.cell 1
          have ac2 : w5.cell? ⟨w.heap.size, 2, none⟩ = some (.int .i64 0) := HA5.cell 2
          have ac3 : w5.cell? ⟨w.heap.size, 3, none⟩ = some (.int .i64 0) := HA5.cell 3
          have ac4 : w5.cell? ⟨w.heap.size, 4, none⟩ = some (.int .i64 0) := HA5.cell 4
          have ac5 : w5.cell? ⟨w.heap.size, 5, none⟩ = some (.slice none 0 0) := HA5.cell 5
          have af0 := HA5.free 0
          have af1 := HA5.free 1
          have af2 := HA5.free 2
          have af3 := HA5.free 3
          have af4 := HA5.free 4
          have af5 := HA5.free 5
          have hsz5 : w.heap.size + 1 < w5.heap.size := HC5.lt
          clear HA5 HC5 b0 b1 b2 b3 b4 b5
          simp only []
          repeat (first | go_values | go_skip | go_guarded | go_step | go_upon)
          have HF := (((((HA5'.out.set 0 (.int .i64 x1)).set 1 (.int .i64 x2)).set 2 (.int .i64 x3)).set 3 (.int .i64 x4)).set 4 (.int .i64 x5)).set 5 (.slice tva done.length tvc)
          have HF0 := HF.cell 0
          have HF1 := HF.cell 1
          have HF2 := HF.cell 2
          have HF3 := HF.cell 3
          have HF4 := HF.cell 4
          have HF5 := HF.cell 5
          simp at HF0 HF1 HF2 HF3 HF4 HF5
          refine bodyPost_ret (v := .tuple #[.agg #[.int .i64 x1, .int .i64 x2, .int .i64 x3, .int .i64 x4, .int .i64 x5, .slice tva done.length tvc], .int .i64 0]) (by simp [results, Tryz.results30, go_sem, HF0, HF1, HF2, HF3, HF4, HF5]) rfl ?_
          rw [HDS.out]
          refine ⟨_, rfl, ⟨_, rfl, ?_⟩, ((((((HBF.out.setCell (Nat.le_refl _) _).setCell (Nat.le_refl _) _).setCell (Nat.le_refl _) _).setCell (Nat.le_refl _) _).setCell (Nat.le_refl _) _).setCell (Nat.le_refl _) _)⟩
          have A0 := HA5'.out
          have A1 := A0.set 0 (.int .i64 x1)
          have A2 := A1.set 1 (.int .i64 x2)
          have A3 := A2.set 2 (.int .i64 x3)
          have A4 := A3.set 3 (.int .i64 x4)
          have A5 := A4.set 4 (.int .i64 x5)
          exact ((((((HOT5.out.other A0 (by decide) (by decide)).other A1 (by decide) (by decide)).other A2 (by decide) (by decide)).other A3 (by decide) (by decide)).other A4 (by decide) (by decide)).other A5 (by decide) (by decide)).tasks
        · have HDN : Hid (dec bs = none) := by rw [Hid, HD.out, HCFG.out, if_neg (by intro h; exact heq h.2)]
          have hne : strOfNums (cfgBytes ⟨x1, x2, x3, x4, x5, done⟩) ≠ strOfNums bs := fun h => heq (strOfNums_inj HBY.out HB.out h)
          generalize hst : strOfNums bs = st at *
          generalize hst2 : strOfNums (cfgBytes ⟨x1, x2, x3, x4, x5, done⟩) = st2 at *
          have hnl : ¬ st2.toList = st.toList := fun h => hne (by rw [ByteArray.toList_eq, ByteArray.toList_eq] at h; cases st; cases st2; simp_all)
          have hnl2 : (st2.toList == st.toList) = false := by simpa using hnl
          clear hnl
          clear hst hst2 heq o5 q5 hne HC5
          have ac0 : w5.cell? ⟨w.heap.size, 0, none⟩ = some (.int .i64 0) := HA5.cell 0
          have ac1 : w5.cell? ⟨w.heap.size, 1, none⟩ = some (.int .i64 0) := HA5.cell 1
          have ac2 : w5.cell? ⟨w.heap.size, 2, none⟩ = some (.int .i64 0) := HA5.cell 2
          have ac3 : w5.cell? ⟨w.heap.size, 3, none⟩ = some (.int .i64 0) := HA5.cell 3
          have ac4 : w5.cell? ⟨w.heap.size, 4, none⟩ = some (.int .i64 0) := HA5.cell 4
          have ac5 : w5.cell? ⟨w.heap.size, 5, none⟩ = some (.slice none 0 0) := HA5.cell 5
          have af0 := HA5.free 0
          have af1 := HA5.free 1
          have af2 := HA5.free 2
          have af3 := HA5.free 3
          have af4 := HA5.free 4
          have af5 := HA5.free 5
          have HAZ := hide HA5
          clear HA5 b0 b1 b2 b3 b4 b5
          simp only []
          repeat (first | go_values | go_skip | go_guarded | go_step | go_upon)
          have HF := (((((HAZ.out.set 0 (.int .i64 0)).set 1 (.int .i64 0)).set 2 (.int .i64 0)).set 3 (.int .i64 0)).set 4 (.int .i64 0)).set 5 (.slice none 0 0)
          have HF0 := HF.cell 0
          have HF1 := HF.cell 1
          have HF2 := HF.cell 2
          have HF3 := HF.cell 3
          have HF4 := HF.cell 4
          have HF5 := HF.cell 5
          simp at HF0 HF1 HF2 HF3 HF4 HF5
          refine bodyPost_ret (v := .tuple #[zeroCfg, .int .i64 2]) (by simp [results, Tryz.results30, go_sem, zeroCfg, HF0, HF1, HF2, HF3, HF4, HF5]) rfl ?_
          rw [HDN.out]
          exact ⟨rfl, ((((((HBF.out.setCell (Nat.le_refl _) _).setCell (Nat.le_refl _) _).setCell (Nat.le_refl _) _).setCell (Nat.le_refl _) _).setCell (Nat.le_refl _) _).setCell (Nat.le_refl _) _)⟩
      · rw [Bool.not_eq_true] at hok
        refine (refEncode_no wr.heap.size _ ⟨x1, x2, x3, x4, x5, done⟩ wr HCF.out (Nat.le_refl _) hok).mono ?_
        rintro e w5 ⟨rfl, q5⟩
        have HA5 := HA.out.later q5 (by omega)
        have HBF := hide (HBE.out.trans (q5.mono hsz))
        have HDN : Hid (dec bs = none) := by rw [Hid, HD.out, HCFG.out, if_neg (by rw [hok]; simp)]
        have ac0 : w5.cell? ⟨w.heap.size, 0, none⟩ = some (.int .i64 0) := HA5.cell 0
        have ac1 : w5.cell? ⟨w.heap.size, 1, none⟩ = some (.int .i64 0) := HA5.cell 1
        have ac2 : w5.cell? ⟨w.heap.size, 2, none⟩ = some (.int .i64 0) := HA5.cell 2
        have ac3 : w5.cell? ⟨w.heap.size, 3, none⟩ = some (.int .i64 0) := HA5.cell 3
        have ac4 : w5.cell? ⟨w.heap.size, 4, none⟩ = some (.int .i64 0) := HA5.cell 4
        have ac5 : w5.cell? ⟨w.heap.size, 5, none⟩ = some (.slice none 0 0) := HA5.cell 5
        have af0 := HA5.free 0
        have af1 := HA5.free 1
        have af2 := HA5.free 2
        have af3 := HA5.free 3
        have af4 := HA5.free 4
        have af5 := HA5.free 5
        have HAZ := hide HA5
        clear HA5 b0 b1 b2 b3 b4 b5
        simp only []
        repeat (first | go_values | go_skip | go_guarded | go_step | go_upon)
        have HF := (((((HAZ.out.set 0 (.int .i64 0)).set 1 (.int .i64 0)).set 2 (.int .i64 0)).set 3 (.int .i64 0)).set 4 (.int .i64 0)).set 5 (.slice none 0 0)
        have HF0 := HF.cell 0
        have HF1 := HF.cell 1
        have HF2 := HF.cell 2
        have HF3 := HF.cell 3
        have HF4 := HF.cell 4
        have HF5 := HF.cell 5
        simp at HF0 HF1 HF2 HF3 HF4 HF5
        refine bodyPost_ret (v := .tuple #[zeroCfg, .int .i64 2]) (by simp [results, Tryz.results30, go_sem, zeroCfg, HF0, HF1, HF2, HF3, HF4, HF5]) rfl ?_
        rw [HDN.out]
        exact ⟨rfl, ((((((HBF.out.setCell (Nat.le_refl _) _).setCell (Nat.le_refl _) _).setCell (Nat.le_refl _) _).setCell (Nat.le_refl _) _).setCell (Nat.le_refl _) _).setCell (Nat.le_refl _) _)⟩
    | succ r =>
      have haN : a < N := by have := HAR.out; omega
      by_cases hpn : p < n
      · go_wp2_with fail
        refine (HAT.out 6 _ _ HBE.out rfl).mono ?_
        rintro e w' ⟨rfl, rfl⟩
        rw [HN6.out]
        go_wp2_with fail
        refine (HAT.out p _ _ HBE.out rfl).mono ?_
        rintro e w' ⟨rfl, rfl⟩
        go_wp2_with fail
        refine (HAT.out (p + 1) _ _ HBE.out (by simp)).mono ?_
        rintro e w' ⟨rfl, rfl⟩
        have hc0 := HAB.out p
        have hc1 := HAB.out (p + 1)
        have hc2 := HAB.out (p + 2)
        have hc3 := HAB.out (p + 3)
        generalize hC0 : atI bs p = c0 at *
        generalize hC1 : atI bs (p + 1) = c1 at *
        have HC0 := hide hC0; have HC1 := hide hC1
        obtain ⟨hc00, hc01⟩ := hc0
        obtain ⟨hc10, hc11⟩ := hc1
        obtain ⟨hc20, hc21⟩ := hc2
        obtain ⟨hc30, hc31⟩ := hc3
        clear hC0 hC1
        go_wp2_with fail
        refine (HAT.out (p + 2) _ _ HBE.out (by simp)).mono ?_
        rintro e w' ⟨rfl, rfl⟩
        generalize hC2 : atI bs (p + 2) = c2 at *
        have HC2 := hide hC2
        obtain ⟨M, hM⟩ : ∃ M : Nat, atI bs (p + 3) = M := ⟨(atI bs (p + 3)).toNat, by omega⟩
        have hM256 : M < 256 := by omega
        have HM := hide hM
        clear hC2 hM hc30 hc31
        go_wp2_with fail
        obtain ⟨W0, hW0⟩ : ∃ W, W = wr := ⟨_, rfl⟩
        subst hW0
        generalize hX : W0.heap.size = X at *
        have HXe := hide hX
        have HTB : Hid (Blk (W0.alloc (.cells #[.int .i64 c0, .int .i64 (256 * c1 + c2), .slice none 0 0] 55)) X #[.int .i64 c0, .int .i64 (256 * c1 + c2), .slice none 0 0] 55) := by rw [← hX]; exact Blk.new _ _ _
        have HB1 : Hid (Below X W0 (W0.alloc (.cells #[.int .i64 c0, .int .i64 (256 * c1 + c2), .slice none 0 0] 55))) := (Below.refl _ _).alloc (by omega) _
        clear hX
        go_loopw [8, 9] (fun kk mm wr => ∃ (a2 r2 q : Nat) (ls : List (Int × Int)) (lva : Option Addr) (lvc : Nat), kk = .int .i64 q ∧ mm = .int .i64 a2 ∧ a2 + r2 = M ∧ q ≤ n + 7 ∧ refLims bs M (p + 4) = (ls ++ (refLims bs r2 q).1, (refLims bs r2 q).2) ∧ ls.length = a2 ∧ OwnL wr X (.slice lva ls.length lvc) ls ∧ Blk wr X #[.int .i64 c0, .int .i64 (256 * c1 + c2), .slice lva ls.length lvc] 55 ∧ Below X W0 wr) (fun _ mm _ => M - (intOf mm).toNat)
        case atStart => exact ⟨0, M, p + 4, [], none, 0, by go_num, rfl, by omega, by omega, by simp, rfl, by simpa [OwnL, flat2] using World.ownsRow_nil _ _ _ _, HTB.out, HB1.out⟩
        case round =>
          obtain ⟨a2, r2, q, ls, lva, lvc, rfl, rfl, har2, hq7, hrl, hll, hov, hT2, hb2⟩ := hrel
          have HAR2 := hide har2; have HRL := hide hrl; have HLL := hide hll; have HOV := hide hov; have HT2 := hide hT2; have HB2 := hide hb2
          have hz2 := hb2.size
          have hzX := hT2.lt
          clear har2 hrl hll hov hT2 hb2
          have HATr := hide (fun i j hj => HAT.out i j wr (HBE.out.trans (HB2.out.mono (by omega))) hj)
          cases r2 with
          | zero =>
            have ha2 : ¬ a2 < M := by have := HAR2.out; omega
            have hfin : (refLims bs 0 q) = ([], q) := rfl
            go_wp2_with fail
            refine (HATr.out (p + 3) _ (by simp)).mono ?_
            rintro e w' ⟨rfl, rfl⟩
            rw [HM.out]
            have HFL : Hid (refTask bs p = (⟨c0, 256 * c1 + c2, ls⟩, q)) := by
              have h1 := HRL.out
              rw [hfin] at h1
              simp only [Hid, refTask]
              rw [HC0.out, HC1.out, HC2.out, HM.out, Int.toNat_natCast, h1]
              simp
            clear hfin
            have HOT2 := hide (HOT.out.below (by rw [HXe.out]; exact HB2.out))
            have C2 := HC.out.later HB2.out (by omega)
            have A2 := HA.out.later HB2.out (by omega)
            obtain ⟨es, o1, ol, orr⟩ := HOT2.out
            have c5 : wr.cell? ⟨w.heap.size + 1, 5, none⟩ = some (.slice tva done.length tvc) := C2.cell 5
            have hel : es.length ≤ 256 := by rw [ol, HDL.out]; omega
            have HO1 := hide o1; have HOL := hide ol; have HORR := hide orr; have HC2' := hide C2; have HA2' := hide A2
            have hz1 := C2.lt
            have y0 : wr.cell? ⟨X, 0, none⟩ = some (.int .i64 c0) := HT2.out.cell 0
            have y1 : wr.cell? ⟨X, 1, none⟩ = some (.int .i64 (256 * c1 + c2)) := HT2.out.cell 1
            have y2 : wr.cell? ⟨X, 2, none⟩ = some (.slice lva ls.length lvc) := HT2.out.cell 2
            clear o1 ol orr C2 A2
            go_wp2_with (at_builtin; go_must (refine wpList_append_own _ rfl _ _ 38 rfl w.heap.size 55 i1 (.agg #[.int .i64 0, .int .i64 0, .slice none 0 0]) 3 40 Tryz.underlying38 HI1.out.1 HI1.out.2.1 HI1.out.2.2.1 HI1.out.2.2.2 rfl (by decide) (.slice tva done.length tvc) es.length (flat3 es) rfl (HO1.out.alloc _) ⟨wr.heap.size, 0, none⟩ 1 1 [.int .i64 c0, .int .i64 (256 * c1 + c2), .slice lva ls.length lvc] rfl rfl ?_ ?_ ?_ ?_ ?_ ?_))
            · exact new_cells wr [.int .i64 c0, .int .i64 (256 * c1 + c2), .slice lva ls.length lvc] 55 wr.heap.size rfl
            · intro u hu; simp at hu; rcases hu with rfl | rfl | rfl <;> rfl
            · unfold maxLen; omega
            · omega
            · simp; omega
            intro v3 w3 ho3 hg3 _
            have hk3 := KeepBut.grown hg3 (HO1.out.alloc _) (Nat.le_refl _)
            have hbn : Below wr.heap.size wr (wr.alloc (.cells #[.int .i64 c0, .int .i64 (256 * c1 + c2), .slice lva ls.length lvc] 55)) := (Below.refl _ _).alloc (Nat.le_refl _) _
            have OT := OwnT.grown (e := (c0, 256 * c1 + c2, .slice lva ls.length lvc)) (t := ⟨c0, 256 * c1 + c2, ls⟩) (ts := done) (HO1.out.alloc _) HOL.out (fun i e t h1 h2 => (HORR.out i e t h1 h2).below hbn) ⟨rfl, rfl, owns_below (owns_lower HOV.out (by omega)) hbn⟩ ho3 hg3
            have C3 := (HC2'.out.alloc (.cells #[.int .i64 c0, .int .i64 (256 * c1 + c2), .slice lva ls.length lvc] 55)).kept hk3 (by decide)
            have A3 := (HA2'.out.alloc (.cells #[.int .i64 c0, .int .i64 (256 * c1 + c2), .slice lva ls.length lvc] 55)).kept hk3 (by decide)
            obtain ⟨va3, vcap3, rfl⟩ := owns_slice ho3
            have c5' : w3.cell? ⟨w.heap.size + 1, 5, none⟩ = some (.slice tva done.length tvc) := C3.cell 5
            have c5f := C3.free 5
            have HOT3 := hide OT
            have HC3 := hide C3
            have HA3 := hide A3
            have HW3 : Hid (Below w.heap.size w w3) := ((HBE.out.trans (HB2.out.mono (by omega))).trans (hbn.mono (by omega))).trans (hk3.below (by simp; omega))
            clear ho3 hg3 hk3 hbn OT C3 A3 c5 y0 y1 y2
            go_wp2
            go_roundw
            case rel =>
              have e1 : done.length + 1 = (done ++ [Tk.mk c0 (256 * c1 + c2) ls]).length := by simp
              refine ⟨a + 1, r, q, done ++ [⟨c0, 256 * c1 + c2, ls⟩], va3, vcap3, rfl, by go_num, by have := HAR.out; omega, hq7, ?_, by simp [HDL.out], ?_, HW3.out.setCell (by simp) _, HA3.out.other (by simp) _, ?_⟩
              · have h1 := HRT.out
                rw [refTasks, if_pos (by rw [HN.out]; exact hpn), HFL.out] at h1
                rw [h1]
                simp
              · have := HOT3.out.other HC3.out (o := 5) (x := .slice va3 (es.length + 1) vcap3) (by decide) (by decide)
                rw [HOL.out] at this
                rw [HOL.out, ← e1]
                exact this
              · have := HC3.out.set 5 (.slice va3 (es.length + 1) vcap3)
                rw [HOL.out] at this
                rw [HOL.out, ← e1]
                exact this
            case measure => simp [intOf]; have := HAR.out; omega
          | succ r2 =>
            have ha2 : a2 < M := by have := HAR2.out; omega
            by_cases hqn : q < n
            · go_wp2_with fail
              refine (HATr.out (p + 3) _ (by simp)).mono ?_
              rintro e w' ⟨rfl, rfl⟩
              rw [HM.out]
              have y2 : wr.cell? ⟨X, 2, none⟩ = some (.slice lva ls.length lvc) := HT2.out.cell 2
              have y2f := HT2.out.free 2
              have HATd := hide (fun i j hj => HAT.out i j wr.drew ((HBE.out.trans (HB2.out.mono (by omega))).drew) hj)
              obtain ⟨hb00, hb01⟩ := HAB.out q
              obtain ⟨hb10, hb11⟩ := HAB.out (q + 1)
              obtain ⟨hb20, hb21⟩ := HAB.out (q + 2)
              have HA0 : Hid (Calls Tryz.prog 58 #[.slice va n vcap, .int .i64 (q : Int)] wr.drew fun e w'' => e = .returned (.int .i64 (atI bs q)) ∧ wr.drew = w'') := HATd.out q _ rfl
              have HA1 : Hid (Calls Tryz.prog 58 #[.slice va n vcap, .int .i64 ((q : Int) + 1)] wr.drew fun e w'' => e = .returned (.int .i64 (atI bs (q + 1))) ∧ wr.drew = w'') := HATd.out (q + 1) _ (by simp)
              have HA2 : Hid (Calls Tryz.prog 58 #[.slice va n vcap, .int .i64 ((q : Int) + 2)] wr.drew fun e w'' => e = .returned (.int .i64 (atI bs (q + 2))) ∧ wr.drew = w'') := HATd.out (q + 2) _ (by simp)
              generalize hB0 : atI bs q = b0 at *
              generalize hB1 : atI bs (q + 1) = b1 at *
              generalize hB2 : atI bs (q + 2) = b2 at *
              have HBB0 := hide hB0; have HBB1 := hide hB1; have HBB2 := hide hB2
              clear hB0 hB1 hB2
              have we1 : IntKind.i64.wrap (256 * b0) = 256 * b0 := IntWalk.i64_in _ ⟨by omega, by omega⟩
              have we2 : IntKind.i64.wrap (256 * b0 + b1) = 256 * b0 + b1 := IntWalk.i64_in _ ⟨by omega, by omega⟩
              have we3 : IntKind.i64.wrap ((q : Int) + 1) = (q : Int) + 1 := IntWalk.i64_in _ ⟨by omega, by omega⟩
              have we4 : IntKind.i64.wrap ((q : Int) + 2) = (q : Int) + 2 := IntWalk.i64_in _ ⟨by omega, by omega⟩
              have hlsn : ls.length ≤ 256 := by rw [HLL.out]; omega
              have HOA : Hid ((wr.alloc (.cells #[.int .i64 (256 * b0 + b1), .int .i64 b2] 52)).drew.ownsRow X 52 2 (.slice lva ls.length lvc) ls.length (flat2 ls)) := World.ownsRow.alloc HOV.out _
              have HNEW : Hid (∀ (j : Nat) (u : Value), [Value.int .i64 (256 * b0 + b1), .int .i64 b2][j]? = some u → (wr.alloc (.cells #[.int .i64 (256 * b0 + b1), .int .i64 b2] 52)).drew.cell? ((⟨wr.heap.size, 0, none⟩ : Addr).add j) = some u) := new_cells wr [Value.int .i64 (256 * b0 + b1), .int .i64 b2] 52 wr.heap.size rfl
              have HONE : Hid (∀ u ∈ [Value.int .i64 (256 * b0 + b1), .int .i64 b2], u.oneCell' = true) := by
                intro u hu; simp at hu; rcases hu with rfl | rfl <;> rfl
              have HTA : Hid (Blk (wr.alloc (.cells #[.int .i64 (256 * b0 + b1), .int .i64 b2] 52)).drew X #[.int .i64 c0, .int .i64 (256 * c1 + c2), .slice lva ls.length lvc] 55) := (HT2.out.alloc _).drew
              go_wp2_with fail
              apply wp_some3 (fun (ya : Option Addr) (yc : Nat) (w4 : World) => w4.ownsRow X 52 2 (.slice ya (ls.length + 1) yc) (ls.length + 1) (flat2 ls ++ [Value.int .i64 (256 * b0 + b1), .int .i64 b2]) ∧ (wr.alloc (.cells #[.int .i64 (256 * b0 + b1), .int .i64 b2] 52)).drew.grownBy w4 (Value.slice lva ls.length lvc).ownBlock)
              case h =>
                go_region_law (first
                  | (refine step_append_own rfl (.tmp 66) (.tmp 81) 53 rfl X 52 i0 (.agg #[.int .i64 0, .int .i64 0]) 2 16 Tryz.underlying53 HI.out.1 HI.out.2.1 HI.out.2.2.1 HI.out.2.2.2 rfl (by decide) (.slice lva ls.length lvc) ls.length (flat2 ls) (by simp [Act.eval]) HOA.out ⟨wr.heap.size, 0, none⟩ 1 1 [.int .i64 (256 * b0 + b1), .int .i64 b2] (by simp [Act.eval]) rfl HNEW.out HONE.out (by decide) (by unfold maxLen; omega) (by omega) (by simp; omega) ?_; intro v1 w4 hown hgrow hat; obtain ⟨ya, yc, rfl⟩ := owns_slice hown; have hbw4 := HTA.out.kept (KeepBut.grown hgrow HOA.out (Nat.le_refl _)) (by decide); have d1 : w4.cell? ⟨X, 2, none⟩ = some (.slice lva ls.length lvc) := hbw4.cell 2; have d1f := hbw4.free 2; have HOW := hide hown; have HGR := hide hgrow; clear hown hgrow hat hbw4)
                  | (go_simp; go_at_call 58; first | (with_reducible refine HA0.out.mono ?_) | (with_reducible refine HA1.out.mono ?_) | (with_reducible refine HA2.out.mono ?_); rintro e w' ⟨rfl, rfl⟩; simp only []))
                all_goals exact ⟨ya, yc, w4, ⟨HOW.out, HGR.out⟩, rfl, rfl⟩
              rintro ya yc w4 ⟨how, hgr⟩
              have hk4 := KeepBut.grown hgr HOA.out (Nat.le_refl _)
              have hT4 := HTA.out.kept hk4 (by decide)
              have HB4 : Hid (Below X W0 w4) := (HB2.out.alloc (by omega) _).drew.trans (hk4.below (by simp; omega))
              have HOW := hide how; have HT4 := hide hT4
              clear how hgr hk4 hT4 y2 y2f we1 we2 we3 we4
              go_wp2
              go_roundw
              case rel =>
                have e1 : ls.length + 1 = (ls ++ [(256 * b0 + b1, b2)]).length := by simp
                refine ⟨a2 + 1, r2, q + 3, ls ++ [(256 * b0 + b1, b2)], ya, yc, by go_num, by go_num, by have := HAR2.out; omega, by omega, ?_, by simp [HLL.out], ?_, ?_, HB4.out.setCell (by simp) _⟩
                · have h1 := HRL.out
                  rw [refLims, if_pos (by rw [HN.out]; exact hqn), HBB0.out, HBB1.out, HBB2.out] at h1
                  rw [h1]
                  simp
                · have h1 := owns_other (o := 2) (x := .slice ya (ls.length + 1) yc) HOW.out HT4.out (by decide)
                  unfold OwnL
                  rw [flat2_app, ← e1]
                  exact h1
                · have h1 := HT4.out.set 2 (.slice ya (ls.length + 1) yc)
                  rw [← e1]
                  exact h1
              case measure => simp [intOf]; have := HAR2.out; omega
            · have hfin : (refLims bs (r2 + 1) q) = ([], q) := by rw [refLims, if_neg (by rw [HN.out]; exact hqn)]
              go_wp2_with fail
              refine (HATr.out (p + 3) _ (by simp)).mono ?_
              rintro e w' ⟨rfl, rfl⟩
              rw [HM.out]
              have HFL : Hid (refTask bs p = (⟨c0, 256 * c1 + c2, ls⟩, q)) := by
                have h1 := HRL.out
                rw [hfin] at h1
                simp only [Hid, refTask]
                rw [HC0.out, HC1.out, HC2.out, HM.out, Int.toNat_natCast, h1]
                simp
              clear hfin
              have HOT2 := hide (HOT.out.below (by rw [HXe.out]; exact HB2.out))
              have C2 := HC.out.later HB2.out (by omega)
              have A2 := HA.out.later HB2.out (by omega)
              obtain ⟨es, o1, ol, orr⟩ := HOT2.out
              have c5 : wr.cell? ⟨w.heap.size + 1, 5, none⟩ = some (.slice tva done.length tvc) := C2.cell 5
              have hel : es.length ≤ 256 := by rw [ol, HDL.out]; omega
              have HO1 := hide o1; have HOL := hide ol; have HORR := hide orr; have HC2' := hide C2; have HA2' := hide A2
              have hz1 := C2.lt
              have y0 : wr.cell? ⟨X, 0, none⟩ = some (.int .i64 c0) := HT2.out.cell 0
              have y1 : wr.cell? ⟨X, 1, none⟩ = some (.int .i64 (256 * c1 + c2)) := HT2.out.cell 1
              have y2 : wr.cell? ⟨X, 2, none⟩ = some (.slice lva ls.length lvc) := HT2.out.cell 2
              clear o1 ol orr C2 A2
              go_wp2_with (at_builtin; go_must (refine wpList_append_own _ rfl _ _ 38 rfl w.heap.size 55 i1 (.agg #[.int .i64 0, .int .i64 0, .slice none 0 0]) 3 40 Tryz.underlying38 HI1.out.1 HI1.out.2.1 HI1.out.2.2.1 HI1.out.2.2.2 rfl (by decide) (.slice tva done.length tvc) es.length (flat3 es) rfl (HO1.out.alloc _) ⟨wr.heap.size, 0, none⟩ 1 1 [.int .i64 c0, .int .i64 (256 * c1 + c2), .slice lva ls.length lvc] rfl rfl ?_ ?_ ?_ ?_ ?_ ?_))
              · exact new_cells wr [.int .i64 c0, .int .i64 (256 * c1 + c2), .slice lva ls.length lvc] 55 wr.heap.size rfl
              · intro u hu; simp at hu; rcases hu with rfl | rfl | rfl <;> rfl
              · unfold maxLen; omega
              · omega
              · simp; omega
              intro v3 w3 ho3 hg3 _
              have hk3 := KeepBut.grown hg3 (HO1.out.alloc _) (Nat.le_refl _)
              have hbn : Below wr.heap.size wr (wr.alloc (.cells #[.int .i64 c0, .int .i64 (256 * c1 + c2), .slice lva ls.length lvc] 55)) := (Below.refl _ _).alloc (Nat.le_refl _) _
              have OT := OwnT.grown (e := (c0, 256 * c1 + c2, .slice lva ls.length lvc)) (t := ⟨c0, 256 * c1 + c2, ls⟩) (ts := done) (HO1.out.alloc _) HOL.out (fun i e t h1 h2 => (HORR.out i e t h1 h2).below hbn) ⟨rfl, rfl, owns_below (owns_lower HOV.out (by omega)) hbn⟩ ho3 hg3
              have C3 := (HC2'.out.alloc (.cells #[.int .i64 c0, .int .i64 (256 * c1 + c2), .slice lva ls.length lvc] 55)).kept hk3 (by decide)
              have A3 := (HA2'.out.alloc (.cells #[.int .i64 c0, .int .i64 (256 * c1 + c2), .slice lva ls.length lvc] 55)).kept hk3 (by decide)
              obtain ⟨va3, vcap3, rfl⟩ := owns_slice ho3
              have c5' : w3.cell? ⟨w.heap.size + 1, 5, none⟩ = some (.slice tva done.length tvc) := C3.cell 5
              have c5f := C3.free 5
              have HOT3 := hide OT
              have HC3 := hide C3
              have HA3 := hide A3
              have HW3 : Hid (Below w.heap.size w w3) := ((HBE.out.trans (HB2.out.mono (by omega))).trans (hbn.mono (by omega))).trans (hk3.below (by simp; omega))
              clear ho3 hg3 hk3 hbn OT C3 A3 c5 y0 y1 y2
              go_wp2
              go_roundw
              case rel =>
                have e1 : done.length + 1 = (done ++ [Tk.mk c0 (256 * c1 + c2) ls]).length := by simp
                refine ⟨a + 1, r, q, done ++ [⟨c0, 256 * c1 + c2, ls⟩], va3, vcap3, rfl, by go_num, by have := HAR.out; omega, hq7, ?_, by simp [HDL.out], ?_, HW3.out.setCell (by simp) _, HA3.out.other (by simp) _, ?_⟩
                · have h1 := HRT.out
                  rw [refTasks, if_pos (by rw [HN.out]; exact hpn), HFL.out] at h1
                  rw [h1]
                  simp
                · have := HOT3.out.other HC3.out (o := 5) (x := .slice va3 (es.length + 1) vcap3) (by decide) (by decide)
                  rw [HOL.out] at this
                  rw [HOL.out, ← e1]
                  exact this
                · have := HC3.out.set 5 (.slice va3 (es.length + 1) vcap3)
                  rw [HOL.out] at this
                  rw [HOL.out, ← e1]
                  exact this
              case measure => simp [intOf]; have := HAR.out; omega
      · have hfin : refTasks bs N 7 = (done, p) := by rw [HRT.out, refTasks, if_neg (by rw [HN.out]; exact hpn)]; simp
        go_wp2_with fail
        refine (HAT.out 6 _ _ HBE.out rfl).mono ?_
        rintro e w' ⟨rfl, rfl⟩
        rw [HN6.out]
        have HCFG : Hid (refCfg bs = ⟨x1, x2, x3, x4, x5, done⟩) := by rw [Hid, HX.out, hfin]
        clear hfin
        have b0 : wr.cell? ⟨w.heap.size + 1, 0, none⟩ = some (.int .i64 x1) := HC.out.cell 0
        have b1 : wr.cell? ⟨w.heap.size + 1, 1, none⟩ = some (.int .i64 x2) := HC.out.cell 1
        have b2 : wr.cell? ⟨w.heap.size + 1, 2, none⟩ = some (.int .i64 x3) := HC.out.cell 2
        have b3 : wr.cell? ⟨w.heap.size + 1, 3, none⟩ = some (.int .i64 x4) := HC.out.cell 3
        have b4 : wr.cell? ⟨w.heap.size + 1, 4, none⟩ = some (.int .i64 x5) := HC.out.cell 4
        have b5 : wr.cell? ⟨w.heap.size + 1, 5, none⟩ = some (.slice tva done.length tvc) := HC.out.cell 5
        have HCF : Hid (Cf wr wr.heap.size (.agg #[.int .i64 x1, .int .i64 x2, .int .i64 x3, .int .i64 x4, .int .i64 x5, .slice tva done.length tvc]) ⟨x1, x2, x3, x4, x5, done⟩) := ⟨_, rfl, HOT.out.tasks⟩
        go_wp2_with fail
        by_cases hok : cfgOk ⟨x1, x2, x3, x4, x5, done⟩ = true
        · refine (refEncode_yes wr.heap.size _ ⟨x1, x2, x3, x4, x5, done⟩ wr HCF.out (Nat.le_refl _) hok).mono ?_
          rintro e w5 ⟨v5, rfl, o5, q5⟩
          have HA5 := HA.out.later q5 (by omega)
          have HC5 := HC.out.later q5 hzc
          have hcv1 := conv_rd8 o5.rd
          have hcv2 := conv_rd8 (HH.out.later (HBE.out.trans (q5.mono hsz)) hB)
          have hz5 := q5.size
          have HBF := hide (HBE.out.trans (q5.mono hsz))
          have HOT5 := hide (HOT.out.below q5)
          have HCF5 := hide (HCF.out.later q5 (Nat.le_refl _))
          have HA5' := hide HA5
          have HC5' := hide HC5
          have HBY := hide (cfgBytes_allB hok)
          obtain ⟨xa, xc, hx5⟩ := o5.slice
          subst hx5
          generalize hL5 : (cfgBytes ⟨x1, x2, x3, x4, x5, done⟩).length = L5 at *
          clear hL5
          by_cases heq : cfgBytes ⟨x1, x2, x3, x4, x5, done⟩ = bs
          · have HDS : Hid (dec bs = some ⟨x1, x2, x3, x4, x5, done⟩) := by rw [Hid, HD.out, HCFG.out, if_pos ⟨hok, heq⟩]
            rw [heq] at hcv1
            generalize hst : strOfNums bs = st at *
            clear hst heq o5 q5
            have d0 : w5.cell? ⟨w.heap.size + 1, 0, none⟩ = some (.int .i64 x1) := HC5.cell 0
            have d1 : w5.cell? ⟨w.heap.size + 1, 1, none⟩ = some (.int .i64 x2) := HC5.cell 1
            have d2 : w5.cell? ⟨w.heap.size + 1, 2, none⟩ = some (.int .i64 x3) := HC5.cell 2
            have d3 : w5.cell? ⟨w.heap.size + 1, 3, none⟩ = some (.int .i64 x4) := HC5.cell 3
            have d4 : w5.cell? ⟨w.heap.size + 1, 4, none⟩ = some (.int .i64 x5) := HC5.cell 4
            have d5 : w5.cell? ⟨w.heap.size + 1, 5, none⟩ = some (.slice tva done.length tvc) := HC5.cell 5
            have ac0 : w5.cell? ⟨w.heap.size, 0, none⟩ = some (.int .i64 0) := HA5.cell 0
            have ac1 : w5.cell? ⟨w.heap.size, 1, none⟩ = some (.int .i64 0) := HA5.cell 1
            have ac2 : w5.cell? ⟨w.heap.size, 2, none⟩ = some (.int .i64 0) := HA5.cell 2
            have ac3 : w5.cell? ⟨w.heap.size, 3, none⟩ = some (.int .i64 0) := HA5.cell 3
            have ac4 : w5.cell? ⟨w.heap.size, 4, none⟩ = some (.int .i64 0) := HA5.cell 4
            have ac5 : w5.cell? ⟨w.heap.size, 5, none⟩ = some (.slice none 0 0) := HA5.cell 5
            have af0 := HA5.free 0
            have af1 := HA5.free 1
            have af2 := HA5.free 2
            have af3 := HA5.free 3
            have af4 := HA5.free 4
            have af5 := HA5.free 5
            have hsz5 : w.heap.size + 1 < w5.heap.size := HC5.lt
            clear HA5 HC5 b0 b1 b2 b3 b4 b5
            simp only []
            repeat (first | go_values | go_skip | go_guarded | go_step | go_upon)
            have HF := (((((HA5'.out.set 0 (.int .i64 x1)).set 1 (.int .i64 x2)).set 2 (.int .i64 x3)).set 3 (.int .i64 x4)).set 4 (.int .i64 x5)).set 5 (.slice tva done.length tvc)
            have HF0 := HF.cell 0
            have HF1 := HF.cell 1
            have HF2 := HF.cell 2
            have HF3 := HF.cell 3
            have HF4 := HF.cell 4
            have HF5 := HF.cell 5
            simp at HF0 HF1 HF2 HF3 HF4 HF5
            refine bodyPost_ret (v := .tuple #[.agg #[.int .i64 x1, .int .i64 x2, .int .i64 x3, .int .i64 x4, .int .i64 x5, .slice tva done.length tvc], .int .i64 0]) (by simp [results, Tryz.results30, go_sem, HF0, HF1, HF2, HF3, HF4, HF5]) rfl ?_
            rw [HDS.out]
            refine ⟨_, rfl, ⟨_, rfl, ?_⟩, ((((((HBF.out.setCell (Nat.le_refl _) _).setCell (Nat.le_refl _) _).setCell (Nat.le_refl _) _).setCell (Nat.le_refl _) _).setCell (Nat.le_refl _) _).setCell (Nat.le_refl _) _)⟩
            have A0 := HA5'.out
            have A1 := A0.set 0 (.int .i64 x1)
            have A2 := A1.set 1 (.int .i64 x2)
            have A3 := A2.set 2 (.int .i64 x3)
            have A4 := A3.set 3 (.int .i64 x4)
            have A5 := A4.set 4 (.int .i64 x5)
            exact ((((((HOT5.out.other A0 (by decide) (by decide)).other A1 (by decide) (by decide)).other A2 (by decide) (by decide)).other A3 (by decide) (by decide)).other A4 (by decide) (by decide)).other A5 (by decide) (by decide)).tasks
          · have HDN : Hid (dec bs = none) := by rw [Hid, HD.out, HCFG.out, if_neg (by intro h; exact heq h.2)]
            have hne : strOfNums (cfgBytes ⟨x1, x2, x3, x4, x5, done⟩) ≠ strOfNums bs := fun h => heq (strOfNums_inj HBY.out HB.out h)
            generalize hst : strOfNums bs = st at *
            generalize hst2 : strOfNums (cfgBytes ⟨x1, x2, x3, x4, x5, done⟩) = st2 at *
            have hnl : ¬ st2.toList = st.toList := fun h => hne (by rw [ByteArray.toList_eq, ByteArray.toList_eq] at h; cases st; cases st2; simp_all)
            have hnl2 : (st2.toList == st.toList) = false := by simpa using hnl
            clear hnl
            clear hst hst2 heq o5 q5 hne HC5
            have ac0 : w5.cell? ⟨w.heap.size, 0, none⟩ = some (.int .i64 0) := HA5.cell 0
            have ac1 : w5.cell? ⟨w.heap.size, 1, none⟩ = some (.int .i64 0) := HA5.cell 1
            have ac2 : w5.cell? ⟨w.heap.size, 2, none⟩ = some (.int .i64 0) := HA5.cell 2
            have ac3 : w5.cell? ⟨w.heap.size, 3, none⟩ = some (.int .i64 0) := HA5.cell 3
            have ac4 : w5.cell? ⟨w.heap.size, 4, none⟩ = some (.int .i64 0) := HA5.cell 4
            have ac5 : w5.cell? ⟨w.heap.size, 5, none⟩ = some (.slice none 0 0) := HA5.cell 5
            have af0 := HA5.free 0
            have af1 := HA5.free 1
            have af2 := HA5.free 2
            have af3 := HA5.free 3
            have af4 := HA5.free 4
            have af5 := HA5.free 5
            have HAZ := hide HA5
            clear HA5 b0 b1 b2 b3 b4 b5
            simp only []
            repeat (first | go_values | go_skip | go_guarded | go_step | go_upon)
            have HF := (((((HAZ.out.set 0 (.int .i64 0)).set 1 (.int .i64 0)).set 2 (.int .i64 0)).set 3 (.int .i64 0)).set 4 (.int .i64 0)).set 5 (.slice none 0 0)
            have HF0 := HF.cell 0
            have HF1 := HF.cell 1
            have HF2 := HF.cell 2
            have HF3 := HF.cell 3
            have HF4 := HF.cell 4
            have HF5 := HF.cell 5
            simp at HF0 HF1 HF2 HF3 HF4 HF5
            refine bodyPost_ret (v := .tuple #[zeroCfg, .int .i64 2]) (by simp [results, Tryz.results30, go_sem, zeroCfg, HF0, HF1, HF2, HF3, HF4, HF5]) rfl ?_
            rw [HDN.out]
            exact ⟨rfl, ((((((HBF.out.setCell (Nat.le_refl _) _).setCell (Nat.le_refl _) _).setCell (Nat.le_refl _) _).setCell (Nat.le_refl _) _).setCell (Nat.le_refl _) _).setCell (Nat.le_refl _) _)⟩
        · rw [Bool.not_eq_true] at hok
          refine (refEncode_no wr.heap.size _ ⟨x1, x2, x3, x4, x5, done⟩ wr HCF.out (Nat.le_refl _) hok).mono ?_
          rintro e w5 ⟨rfl, q5⟩
          have HA5 := HA.out.later q5 (by omega)
          have HBF := hide (HBE.out.trans (q5.mono hsz))
          have HDN : Hid (dec bs = none) := by rw [Hid, HD.out, HCFG.out, if_neg (by rw [hok]; simp)]
          have ac0 : w5.cell? ⟨w.heap.size, 0, none⟩ = some (.int .i64 0) := HA5.cell 0
          have ac1 : w5.cell? ⟨w.heap.size, 1, none⟩ = some (.int .i64 0) := HA5.cell 1
          have ac2 : w5.cell? ⟨w.heap.size, 2, none⟩ = some (.int .i64 0) := HA5.cell 2
          have ac3 : w5.cell? ⟨w.heap.size, 3, none⟩ = some (.int .i64 0) := HA5.cell 3
          have ac4 : w5.cell? ⟨w.heap.size, 4, none⟩ = some (.int .i64 0) := HA5.cell 4
          have ac5 : w5.cell? ⟨w.heap.size, 5, none⟩ = some (.slice none 0 0) := HA5.cell 5
          have af0 := HA5.free 0
          have af1 := HA5.free 1
          have af2 := HA5.free 2
          have af3 := HA5.free 3
          have af4 := HA5.free 4
          have af5 := HA5.free 5
          have HAZ := hide HA5
          clear HA5 b0 b1 b2 b3 b4 b5
          simp only []
          repeat (first | go_values | go_skip | go_guarded | go_step | go_upon)
          have HF := (((((HAZ.out.set 0 (.int .i64 0)).set 1 (.int .i64 0)).set 2 (.int .i64 0)).set 3 (.int .i64 0)).set 4 (.int .i64 0)).set 5 (.slice none 0 0)
          have HF0 := HF.cell 0
          have HF1 := HF.cell 1
          have HF2 := HF.cell 2
          have HF3 := HF.cell 3
          have HF4 := HF.cell 4
          have HF5 := HF.cell 5
          simp at HF0 HF1 HF2 HF3 HF4 HF5
          refine bodyPost_ret (v := .tuple #[zeroCfg, .int .i64 2]) (by simp [results, Tryz.results30, go_sem, zeroCfg, HF0, HF1, HF2, HF3, HF4, HF5]) rfl ?_
          rw [HDN.out]
          exact ⟨rfl, ((((((HBF.out.setCell (Nat.le_refl _) _).setCell (Nat.le_refl _) _).setCell (Nat.le_refl _) _).setCell (Nat.le_refl _) _).setCell (Nat.le_refl _) _).setCell (Nat.le_refl _) _)⟩

end Go.Proofs.YthloffgebebijaaGreat
