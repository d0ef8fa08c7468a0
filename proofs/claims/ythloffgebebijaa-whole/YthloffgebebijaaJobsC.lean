/- JobsC: the walk of container/heap's down over package jobs' list. -/
import Derived.Test.YthloffgebebijaaJobsB
namespace Go.Proofs.Ythloffgebebijaa
open Go.RowKit

set_option maxRecDepth 100000 in
set_option maxHeartbeats 1600000 in
theorem down_any (base X o g cap n m : Nat) (hs : List Jb) (w : World) (hc : w.cell? ⟨X, o, none⟩ = some (.slice (some ⟨g, 0, none⟩) n cap)) (h : JobsP w base (.slice (some ⟨g, 0, none⟩) n cap) hs) (hn : hs.length = n) (hX : X ≠ g) (hXs : X < w.heap.size) (hlen : n ≤ 1000000) (hm : m ≤ n) (hu : DownI hs m 0) :
    Calls Try.prog 88 #[.iface 159 (.pointer (some ⟨X, o, none⟩)), .int .i64 0, .int .i64 m] w fun e w' => (∃ r, e = .returned (.bool r)) ∧ ∃ hs', JobsP w' base (.slice (some ⟨g, 0, none⟩) n cap) hs' ∧ hs'.Perm hs ∧ Heapy hs' m ∧ (∀ k, m ≤ k → hs'[k]? = hs[k]?) ∧ Fr (fun k => k = g) w w' := by
  have HU := hide hu
  have HJ := hide h
  clear hu h
  go_enter Try.func88, Try.ntmps88
  go_wp2_with fail
  go_loopw [7] (fun iv wr => ∃ (q : Nat) (hs' : List Jb), iv = .int .i64 q ∧ q ≤ m ∧ JobsP wr base (.slice (some ⟨g, 0, none⟩) n cap) hs' ∧ hs'.Perm hs ∧ DownI hs' m q ∧ (∀ k, m ≤ k → hs'[k]? = hs[k]?) ∧ Fr (fun k => k = g) w wr) (fun iv _ => m - (intOf iv).toNat)
  case atStart => exact ⟨0, hs, rfl, by omega, HJ.out, List.Perm.refl _, HU.out, fun _ _ => rfl, Fr.refl _ _⟩
  case round =>
    obtain ⟨q, hs', rfl, hq, hJ, hp, hU, hkeep, hfr⟩ := hrel
    have HJ' := hide hJ
    have HP := hide hp
    have HU' := hide hU
    have HK := hide hkeep
    have HFR := hide hfr
    have hl' : hs'.length = n := hp.length_eq.trans hn
    clear hJ hp hU hfr HJ HU hn hkeep
    by_cases h1 : 2 * q + 1 < m
    · have hcw : wr.cell? ⟨X, o, none⟩ = some (.slice (some ⟨g, 0, none⟩) n cap) := (HFR.out.cell (p := ⟨X, o, none⟩) hXs hX).trans hc
      have hXr : X < wr.heap.size := Nat.lt_of_lt_of_le hXs HFR.out.size
      have i1 : ¬ (2 * (q : Int) + 1 ≥ (m : Int)) := by omega
      have i0 : ¬ (2 * (q : Int) + 1 < 0) := by omega
      have hm1 := meth_less wr _ _ hcw
      obtain ⟨a0, ha0⟩ := get_of_lt (l := hs') (k := q) (by omega)
      obtain ⟨a1, ha1⟩ := get_of_lt (l := hs') (k := 2 * q + 1) (by omega)
      have HG0 := hide ha0
      have HG1 := hide ha1
      have HL : Hid (∀ (w2 : World) (x y : Nat) (xi yi : Int) (a b : Jb), Below wr.heap.size wr w2 → hs'[x]? = some a → hs'[y]? = some b → xi = x → yi = y → Calls Try.prog 107 #[.slice (some ⟨g, 0, none⟩) n cap, .int .i64 xi, .int .i64 yi] w2 fun e w' => e = .returned (.bool (jbBefore a b)) ∧ Below wr.heap.size wr w') := by
        intro w2 x y xi yi a b hb2 ha hb rfl rfl
        refine (pLess_any base g cap n x y hs' a b w2 (HJ'.out.later hb2) hl' ha hb).mono ?_
        rintro e w' ⟨rfl, hb'⟩
        exact ⟨rfl, hb2.trans (hb'.mono hb2.size)⟩
      have HS : Hid (∀ (w2 : World) (x y : Nat) (xi yi : Int) (a b : Jb), Below wr.heap.size wr w2 → hs'[x]? = some a → hs'[y]? = some b → xi = x → yi = y → Calls Try.prog 108 #[.slice (some ⟨g, 0, none⟩) n cap, .int .i64 xi, .int .i64 yi] w2 fun e w' => e = .returned (.tuple #[]) ∧ JobsP w' base (.slice (some ⟨g, 0, none⟩) n cap) (swp hs' x y) ∧ Fr (fun k => k = g) w2 w') := by
        intro w2 x y xi yi a b hb2 ha hb rfl rfl
        exact pSwap_any base g cap n x y hs' a b w2 (HJ'.out.later hb2) hl' ha hb
      clear ha0 ha1
      by_cases h2 : 2 * q + 2 < m
      · have i2 : 2 * (q : Int) + 1 + 1 < (m : Int) := by omega
        obtain ⟨a2, ha2⟩ := get_of_lt (l := hs') (k := 2 * q + 2) (by omega)
        have HG2 := hide ha2
        clear ha2
        cases hb2 : jbBefore a2 a1 with
        | true =>
          go_wp2_with fail
          refine (HL.out wr (2 * q + 2) (2 * q + 1) _ _ a2 a1 (Below.refl _ _) HG2.out HG1.out (by omega) (by omega)).mono ?_
          rintro e w2 ⟨he, q2⟩
          rw [hb2] at he
          subst he
          have HQ2 := hide q2
          have hm2 := meth_less w2 ⟨X, o, none⟩ _ ((q2.cell (p := ⟨X, o, none⟩) hXr).trans hcw)
          clear q2
          cases hbf : jbBefore a2 a0 with
          | false =>
            go_wp2_with fail
            refine (HL.out w2 (2 * q + 2) q _ _ a2 a0 HQ2.out HG2.out HG0.out (by omega) rfl).mono ?_
            rintro e w3 ⟨he, q3⟩
            rw [hbf] at he
            subst he
            have HQ3 := hide q3
            clear q3
            go_wp2
            go_ret
            refine ⟨⟨_, rfl⟩, hs', HJ'.out.later HQ3.out, HP.out, downI_stop HU'.out ?_, HK.out, HFR.out.then_below HQ3.out⟩
            intro k x y hk0 hkm hki hx hy
            rw [HG0.out] at hx
            cases hx
            rcases (show k = 2 * q + 1 ∨ k = 2 * q + 2 from by omega) with rfl | rfl
            · rw [HG1.out] at hy; cases hy
              exact jle_trans hbf (jle_of_before hb2)
            · rw [HG2.out] at hy; cases hy
              exact hbf
          | true =>
            go_wp2_with fail
            refine (HL.out w2 (2 * q + 2) q _ _ a2 a0 HQ2.out HG2.out HG0.out (by omega) rfl).mono ?_
            rintro e w3 ⟨he, q3⟩
            rw [hbf] at he
            subst he
            have HQ3 := hide q3
            have hms := meth_swap w3 ⟨X, o, none⟩ _ ((q3.cell (p := ⟨X, o, none⟩) hXr).trans hcw)
            clear q3
            go_wp2_with fail
            refine (HS.out w3 q (2 * q + 2) _ _ a0 a2 HQ3.out HG0.out HG2.out rfl (by omega)).mono ?_
            rintro e w4 ⟨rfl, j4, q4⟩
            have HJ4 := hide j4
            have HQ4 := hide q4
            clear j4 q4
            go_wp2
            go_roundw
            case rel =>
              refine ⟨2 * q + 2, swp hs' q (2 * q + 2), by go_num, by omega, HJ4.out, (swp_perm _ _ _).trans HP.out, downI_step HU'.out (by omega) (by omega) (by omega) HG0.out HG2.out hbf ?_, ?_, (HFR.out.then_below HQ3.out).trans HQ4.out fun _ _ x => x⟩
              · intro k y hk0 hkm hki hy
                rcases (show k = 2 * q + 1 ∨ k = 2 * q + 2 from by omega) with rfl | rfl
                · rw [HG1.out] at hy; cases hy
                  exact jle_of_before hb2
                · rw [HG2.out] at hy; cases hy
                  exact jle_refl _
              · intro k hk
                rw [swp_get HG0.out HG2.out, if_neg (by omega), if_neg (by omega)]
                exact HK.out k hk
            case measure => simp [intOf]; omega
        | false =>
          go_wp2_with fail
          refine (HL.out wr (2 * q + 2) (2 * q + 1) _ _ a2 a1 (Below.refl _ _) HG2.out HG1.out (by omega) (by omega)).mono ?_
          rintro e w2 ⟨he, q2⟩
          rw [hb2] at he
          subst he
          have HQ2 := hide q2
          have hm2 := meth_less w2 ⟨X, o, none⟩ _ ((q2.cell (p := ⟨X, o, none⟩) hXr).trans hcw)
          clear q2
          cases hbf : jbBefore a1 a0 with
          | false =>
            go_wp2_with fail
            refine (HL.out w2 (2 * q + 1) q _ _ a1 a0 HQ2.out HG1.out HG0.out (by omega) rfl).mono ?_
            rintro e w3 ⟨he, q3⟩
            rw [hbf] at he
            subst he
            have HQ3 := hide q3
            clear q3
            go_wp2
            go_ret
            refine ⟨⟨_, rfl⟩, hs', HJ'.out.later HQ3.out, HP.out, downI_stop HU'.out ?_, HK.out, HFR.out.then_below HQ3.out⟩
            intro k x y hk0 hkm hki hx hy
            rw [HG0.out] at hx
            cases hx
            rcases (show k = 2 * q + 1 ∨ k = 2 * q + 2 from by omega) with rfl | rfl
            · rw [HG1.out] at hy; cases hy
              exact hbf
            · rw [HG2.out] at hy; cases hy
              exact jle_trans hbf hb2
          | true =>
            go_wp2_with fail
            refine (HL.out w2 (2 * q + 1) q _ _ a1 a0 HQ2.out HG1.out HG0.out (by omega) rfl).mono ?_
            rintro e w3 ⟨he, q3⟩
            rw [hbf] at he
            subst he
            have HQ3 := hide q3
            have hms := meth_swap w3 ⟨X, o, none⟩ _ ((q3.cell (p := ⟨X, o, none⟩) hXr).trans hcw)
            clear q3
            go_wp2_with fail
            refine (HS.out w3 q (2 * q + 1) _ _ a0 a1 HQ3.out HG0.out HG1.out rfl (by omega)).mono ?_
            rintro e w4 ⟨rfl, j4, q4⟩
            have HJ4 := hide j4
            have HQ4 := hide q4
            clear j4 q4
            go_wp2
            go_roundw
            case rel =>
              refine ⟨2 * q + 1, swp hs' q (2 * q + 1), by go_num, by omega, HJ4.out, (swp_perm _ _ _).trans HP.out, downI_step HU'.out (by omega) (by omega) (by omega) HG0.out HG1.out hbf ?_, ?_, (HFR.out.then_below HQ3.out).trans HQ4.out fun _ _ x => x⟩
              · intro k y hk0 hkm hki hy
                rcases (show k = 2 * q + 1 ∨ k = 2 * q + 2 from by omega) with rfl | rfl
                · rw [HG1.out] at hy; cases hy
                  exact jle_refl _
                · rw [HG2.out] at hy; cases hy
                  exact hb2
              · intro k hk
                rw [swp_get HG0.out HG1.out, if_neg (by omega), if_neg (by omega)]
                exact HK.out k hk
            case measure => simp [intOf]; omega
      · have i2 : ¬ (2 * (q : Int) + 1 + 1 < (m : Int)) := by omega
        cases hbf : jbBefore a1 a0 with
        | false =>
          go_wp2_with fail
          refine (HL.out wr (2 * q + 1) q _ _ a1 a0 (Below.refl _ _) HG1.out HG0.out (by omega) rfl).mono ?_
          rintro e w3 ⟨he, q3⟩
          rw [hbf] at he
          subst he
          have HQ3 := hide q3
          clear q3
          go_wp2
          go_ret
          refine ⟨⟨_, rfl⟩, hs', HJ'.out.later HQ3.out, HP.out, downI_stop HU'.out ?_, HK.out, HFR.out.then_below HQ3.out⟩
          intro k x y hk0 hkm hki hx hy
          rw [HG0.out] at hx
          cases hx
          obtain rfl : k = 2 * q + 1 := by omega
          rw [HG1.out] at hy; cases hy
          exact hbf
        | true =>
          go_wp2_with fail
          refine (HL.out wr (2 * q + 1) q _ _ a1 a0 (Below.refl _ _) HG1.out HG0.out (by omega) rfl).mono ?_
          rintro e w3 ⟨he, q3⟩
          rw [hbf] at he
          subst he
          have HQ3 := hide q3
          have hms := meth_swap w3 ⟨X, o, none⟩ _ ((q3.cell (p := ⟨X, o, none⟩) hXr).trans hcw)
          clear q3
          go_wp2_with fail
          refine (HS.out w3 q (2 * q + 1) _ _ a0 a1 HQ3.out HG0.out HG1.out rfl (by omega)).mono ?_
          rintro e w4 ⟨rfl, j4, q4⟩
          have HJ4 := hide j4
          have HQ4 := hide q4
          clear j4 q4
          go_wp2
          go_roundw
          case rel =>
            refine ⟨2 * q + 1, swp hs' q (2 * q + 1), by go_num, by omega, HJ4.out, (swp_perm _ _ _).trans HP.out, downI_step HU'.out (by omega) (by omega) (by omega) HG0.out HG1.out hbf ?_, ?_, (HFR.out.then_below HQ3.out).trans HQ4.out fun _ _ x => x⟩
            · intro k y hk0 hkm hki hy
              obtain rfl : k = 2 * q + 1 := by omega
              rw [HG1.out] at hy; cases hy
              exact jle_refl _
            · intro k hk
              rw [swp_get HG0.out HG1.out, if_neg (by omega), if_neg (by omega)]
              exact HK.out k hk
          case measure => simp [intOf]; omega
    · have i1 : (m : Int) ≤ 2 * (q : Int) + 1 := by omega
      go_wp2
      go_ret
      exact ⟨⟨_, rfl⟩, hs', HJ'.out, HP.out, downI_stop HU'.out (fun k x y hk0 hkm hki => by omega), HK.out, HFR.out⟩

end Go.Proofs.Ythloffgebebijaa
