/- RefA: the walks of the reference's tests on a configuration: they come to the same as the program's. -/
import Derived.Test.YthloffgebebijaaGreatRows
import Derived.Test.YthloffgebebijaaGreatData
import Derived.Test.YthloffgebebijaaGreatValidB
import Derived.Deep.QuietTactic
import Derived.BigQuiet
import Derived.Test.YthloffgebebijaaGreatDrewN
namespace Go.Proofs.YthloffgebebijaaGreat
open Go.RowKit

theorem refIn_yes (a b c : Int) (w : World) (h : b ≤ a ∧ a ≤ c) :
    Calls Tryz.prog 71 #[.int .i64 a, .int .i64 b, .int .i64 c] w fun e w' => e = .returned (.bool true) ∧ w = w' := by
  obtain ⟨h1, h2⟩ := h
  go_enter Tryz.func71, Tryz.ntmps71
  go_wp2
  go_ret
  exact ⟨rfl, rfl⟩
theorem refIn_no (a b c : Int) (w : World) (h : ¬ (b ≤ a ∧ a ≤ c)) :
    Calls Tryz.prog 71 #[.int .i64 a, .int .i64 b, .int .i64 c] w fun e w' => e = .returned (.bool false) ∧ w = w' := by
  by_cases h1 : b ≤ a
  · have h2 : decide (a ≤ c) = false := by simp; omega
    clear h
    go_enter Tryz.func71, Tryz.ntmps71
    go_wp2
    go_ret
    exact ⟨rfl, rfl⟩
  · clear h
    have h2 : decide (b ≤ a) = false := by simpa using h1
    go_enter Tryz.func71, Tryz.ntmps71
    go_wp2
    go_ret
    exact ⟨rfl, rfl⟩

set_option maxRecDepth 100000 in
set_option maxHeartbeats 1600000 in
theorem taskFits_any (v : Value) (B : Nat) (t : Tk) (w : World) (hv : Task1 w B v t) (hB : B ≤ w.heap.size) :
    Calls Tryz.prog 80 #[v] w fun e w' => e = .returned (.bool (taskOk t)) ∧ Below w.heap.size w w' := by
  obtain ⟨s, rfl, hs⟩ := hv
  obtain ⟨cost, due, ls⟩ := t
  simp only at hs ⊢
  obtain ⟨sa, scap, rfl, hs⟩ := hs
  generalize hn : ls.length = n at *
  have H : Hid (ls.length = n) := hn
  have HS := hide hs
  clear hn hs
  have HOK : Hid (taskOk ⟨cost, due, ls⟩ = (decide (1 ≤ cost ∧ cost ≤ 50) && (decide (1 ≤ due ∧ due ≤ 400) && (decide (1 ≤ n ∧ n ≤ 3) && vl (0, 0) ls)))) := by simp only [Hid, taskOk, limsOk, H.out]
  by_cases hall : (1 ≤ cost ∧ cost ≤ 50) ∧ (1 ≤ due ∧ due ≤ 400) ∧ (1 ≤ n ∧ n ≤ 3)
  case neg =>
    have HF : Hid (taskOk ⟨cost, due, ls⟩ = false) := by
      rw [HOK.out]
      apply Bool.eq_false_iff.2
      intro h
      simp only [Bool.and_eq_true, decide_eq_true_eq] at h
      exact hall ⟨h.1, h.2.1, h.2.2.1⟩
    by_cases h1 : 1 ≤ cost ∧ cost ≤ 50 <;> by_cases h2 : 1 ≤ due ∧ due ≤ 400 <;> by_cases h3 : 1 ≤ n ∧ n ≤ 3
    · exact absurd ⟨h1, h2, h3⟩ hall
    all_goals
      clear hall
      go_enter Tryz.func80, Tryz.ntmps80
      go_wp2_with (first | (go_at_call 71; refine (refIn_yes _ _ _ _ (by omega)).mono ?_; rintro e w' ⟨rfl, rfl⟩) | (go_at_call 71; refine (refIn_no _ _ _ _ (by omega)).mono ?_; rintro e w' ⟨rfl, rfl⟩))
      go_ret
      exact ⟨ret_bool HF.out.symm, (Below.refl _ _).alloc (Nat.le_refl _) _⟩
  case pos =>
  obtain ⟨h1, h2, h3, h3'⟩ := hall
  have HOK2 : Hid (taskOk ⟨cost, due, ls⟩ = vl (0, 0) ls) := by rw [HOK.out, decide_eq_true h1, decide_eq_true h2, decide_eq_true ⟨h3, h3'⟩]; rfl
  rcases HS.out with he | ⟨sb, so, rfl, hlt, hc⟩
  · exfalso; have := H.out; rw [he] at this; simp at this; omega
  have HC := hide hc
  clear hc HS HOK
  go_enter Tryz.func80, Tryz.ntmps80
  go_wp2_with (go_at_call 71; refine (refIn_yes _ _ _ _ (by omega)).mono ?_; rintro e w' ⟨rfl, rfl⟩)
  go_loopw [6] (fun i wr => ∃ (k : Nat) (a : Int × Int), i = .int .i64 k ∧ k ≤ n ∧ vl (0, 0) ls = vl a (ls.drop k) ∧ 0 ≤ a.1 ∧ 0 ≤ a.2 ∧ (k = 0 → a = (0, 0)) ∧ (0 < k → ls[k - 1]? = some a) ∧ Below w.heap.size w wr ∧ Blk wr w.heap.size #[.int .i64 cost, .int .i64 due, .slice (some ⟨sb, so, none⟩) n scap] 55) (fun i _ => n - (intOf i).toNat)
  case atStart => exact ⟨0, (0, 0), rfl, Nat.zero_le _, rfl, by simp, by simp, by simp, by simp, (Below.refl _ _).alloc (Nat.le_refl _) _, Blk.new _ _ _⟩
  case round =>
    obtain ⟨k, ⟨a1, a2⟩, rfl, hk, he, p0, p1, hz, hprev, hbel, hblk⟩ := hrel
    simp only at p0 p1
    have HE := hide he
    have HZ := hide hz
    have HP := hide hprev
    have HBE := hide hbel
    have HBK := hide hblk
    have c2 : wr.cell? ⟨w.heap.size, 2, none⟩ = some (.slice (some ⟨sb, so, none⟩) n scap) := hblk.cell 2
    have hsz := hblk.lt
    clear he hz hprev hbel hblk
    by_cases hlt2 : k < n
    · obtain ⟨⟨l1, l2⟩, hl⟩ := get_of_lt (l := ls) (k := k) (by rw [H.out]; exact hlt2)
      obtain ⟨d0, d1⟩ := (HC.out k _ hl).later HBE.out (by omega)
      have HD := hide (drop_cons hl)
      have HG := hide hl
      have hsb : sb < wr.heap.size := by omega
      clear hl
      by_cases hw : 1 ≤ l1 ∧ l1 ≤ 500
      · by_cases hcn : 1 ≤ l2 ∧ l2 ≤ 20
        · by_cases hk0 : k = 0
          · subst hk0
            simp only [Nat.zero_mul, Nat.add_zero] at d0 d1
            go_wp2_with (go_at_call 71; refine (refIn_yes _ _ _ _ (by omega)).mono ?_; rintro e w' ⟨rfl, rfl⟩)
            go_quiet ((fail))
            have HV : Hid (vl (a1, a2) ((l1, l2) :: ls.drop (0 + 1)) = vl (l1, l2) (ls.drop (0 + 1))) := by
              have := HZ.out (by trivial)
              simp only [Prod.mk.injEq] at this
              simp only [Hid, vl]
              rw [decide_eq_true (by omega), decide_eq_true (by omega)]
              rfl
            go_wp2
            go_roundw
            case rel => exact ⟨0 + 1, (l1, l2), by go_num, by omega, HE.out.trans (by rw [HD.out]; exact HV.out), by simp; omega, by simp; omega, by simp, fun _ => HG.out, Below.drewN (HBE.out.alloc (by omega) _) _, HBK.out.alloc _⟩
            case measure => simp [intOf]; omega
          · obtain ⟨j, rfl⟩ : ∃ j, k = j + 1 := ⟨k - 1, by omega⟩
            obtain ⟨q0, q1⟩ := (HC.out j _ (HP.out (by omega))).later HBE.out (by omega)
            simp only at q0 q1
            have hkz : decide ((0 : Int) < ((j : Int) + 1)) = true := by simp
            by_cases hq1 : l1 ≤ a1
            · have HV : Hid (vl (a1, a2) ((l1, l2) :: ls.drop (j + 1 + 1)) = false) := by
                simp only [Hid, vl]; rw [decide_eq_false (by omega)]; rfl
              go_wp2_with (go_at_call 71; refine (refIn_yes _ _ _ _ (by omega)).mono ?_; rintro e w' ⟨rfl, rfl⟩)
              go_quiet ((fail))
              go_wp2
              go_ret
              refine ⟨ret_bool ?_, Below.drewN (HBE.out.alloc (by omega) _) _⟩
              rw [HOK2.out, HE.out, HD.out, HV.out]
            · by_cases hq2 : l2 ≤ a2
              · have HV : Hid (vl (a1, a2) ((l1, l2) :: ls.drop (j + 1 + 1)) = false) := by
                  simp only [Hid, vl]; rw [decide_eq_true (by omega), decide_eq_false (by omega)]; rfl
                have hd1 : decide (l1 ≤ a1) = false := by simpa using hq1
                go_wp2_with (go_at_call 71; refine (refIn_yes _ _ _ _ (by omega)).mono ?_; rintro e w' ⟨rfl, rfl⟩)
                go_quiet ((fail))
                go_wp2
                go_ret
                refine ⟨ret_bool ?_, Below.drewN (HBE.out.alloc (by omega) _) _⟩
                rw [HOK2.out, HE.out, HD.out, HV.out]
              · have HV : Hid (vl (a1, a2) ((l1, l2) :: ls.drop (j + 1 + 1)) = vl (l1, l2) (ls.drop (j + 1 + 1))) := by
                  simp only [Hid, vl]; rw [decide_eq_true (by omega), decide_eq_true (by omega)]; rfl
                have hd1 : decide (l1 ≤ a1) = false := by simpa using hq1
                have hd2 : decide (l2 ≤ a2) = false := by simpa using hq2
                go_wp2_with (go_at_call 71; refine (refIn_yes _ _ _ _ (by omega)).mono ?_; rintro e w' ⟨rfl, rfl⟩)
                go_quiet ((fail))
                go_wp2
                go_roundw
                case rel => exact ⟨(j + 1) + 1, (l1, l2), by go_num, by omega, HE.out.trans (by rw [HD.out]; exact HV.out), by simp; omega, by simp; omega, by simp, fun _ => HG.out, Below.drewN (HBE.out.alloc (by omega) _) _, HBK.out.alloc _⟩
                case measure => simp [intOf]; omega
        · have HV : Hid (vl (a1, a2) ((l1, l2) :: ls.drop (k + 1)) = false) := by
            simp only [Hid, vl]; rw [decide_eq_false (p := a2 + 1 ≤ l2 ∧ l2 ≤ 20) (by omega)]; simp
          go_wp2_with (first | (go_at_call 71; refine (refIn_yes _ _ _ _ (by omega)).mono ?_; rintro e w' ⟨rfl, rfl⟩) | (go_at_call 71; refine (refIn_no _ _ _ _ (by omega)).mono ?_; rintro e w' ⟨rfl, rfl⟩))
          go_quiet ((fail))
          go_wp2
          go_ret
          refine ⟨ret_bool ?_, Below.drewN (HBE.out.alloc (by omega) _) _⟩
          rw [HOK2.out, HE.out, HD.out, HV.out]
      · have HV : Hid (vl (a1, a2) ((l1, l2) :: ls.drop (k + 1)) = false) := by
          simp only [Hid, vl]; rw [decide_eq_false (p := a1 + 1 ≤ l1 ∧ l1 ≤ 500) (by omega)]; simp
        by_cases hcn : 1 ≤ l2 ∧ l2 ≤ 20
        all_goals
          go_wp2_with (first | (go_at_call 71; refine (refIn_yes _ _ _ _ (by omega)).mono ?_; rintro e w' ⟨rfl, rfl⟩) | (go_at_call 71; refine (refIn_no _ _ _ _ (by omega)).mono ?_; rintro e w' ⟨rfl, rfl⟩))
          go_quiet ((fail))
          go_wp2
          go_ret
          refine ⟨ret_bool ?_, Below.drewN (HBE.out.alloc (by omega) _) _⟩
          rw [HOK2.out, HE.out, HD.out, HV.out]
    · go_wp2
      go_ret
      refine ⟨ret_bool ?_, HBE.out⟩
      rw [HOK2.out, HE.out, List.drop_eq_nil_of_le (by rw [H.out]; omega)]; rfl

set_option maxRecDepth 100000 in
set_option maxHeartbeats 3200000 in
theorem refFits_any (v : Value) (B : Nat) (c : Cfg) (w : World) (hv : Cf w B v c) (hB : B ≤ w.heap.size) :
    Calls Tryz.prog 55 #[v] w fun e w' => e = .returned (.bool (cfgOk c)) ∧ Below w.heap.size w w' := by
  obtain ⟨s, rfl, hs⟩ := hv
  obtain ⟨lines, room, poll, idle, sw, ts⟩ := c
  simp only at hs ⊢
  obtain ⟨sa, scap, rfl, hs⟩ := hs
  generalize hn : ts.length = n at *
  have H : Hid (ts.length = n) := hn
  have HS := hide hs
  clear hn hs
  have HOK : Hid (cfgOk ⟨lines, room, poll, idle, sw, ts⟩ = (decide (1 ≤ lines ∧ lines ≤ 4) && (decide (1 ≤ room ∧ room ≤ 40) && (decide (1 ≤ poll ∧ poll ≤ 20) && (decide (0 ≤ idle ∧ idle ≤ 20) && (decide (0 ≤ sw ∧ sw ≤ 20) && (decide (1 ≤ n ∧ n ≤ 6) && ts.all taskOk))))))) := by simp only [Hid, cfgOk, tasksOk, H.out]
  by_cases hall : (1 ≤ lines ∧ lines ≤ 4) ∧ (1 ≤ room ∧ room ≤ 40) ∧ (1 ≤ poll ∧ poll ≤ 20) ∧ (0 ≤ idle ∧ idle ≤ 20) ∧ (0 ≤ sw ∧ sw ≤ 20) ∧ (1 ≤ n ∧ n ≤ 6)
  case neg =>
    have HF : Hid (cfgOk ⟨lines, room, poll, idle, sw, ts⟩ = false) := by
      rw [HOK.out]
      apply Bool.eq_false_iff.2
      intro h
      simp only [Bool.and_eq_true, decide_eq_true_eq] at h
      exact hall ⟨h.1, h.2.1, h.2.2.1, h.2.2.2.1, h.2.2.2.2.1, h.2.2.2.2.2.1⟩
    have HW : ∀ x lo hi w', Calls Tryz.prog 71 #[.int .i64 x, .int .i64 lo, .int .i64 hi] w' fun e w'' => e = .returned (.bool (decide (lo ≤ x ∧ x ≤ hi))) ∧ w' = w'' := fun x lo hi w' => by
      by_cases h : lo ≤ x ∧ x ≤ hi
      · rw [decide_eq_true h]; exact refIn_yes x lo hi w' h
      · rw [decide_eq_false h]; exact refIn_no x lo hi w' h
    have HWH := hide HW
    clear HW
    by_cases h1 : 1 ≤ lines ∧ lines ≤ 4
    case neg =>
      clear hall
      go_enter Tryz.func55, Tryz.ntmps55
      go_wp2_with (first | (go_at_call 71; refine (refIn_yes _ _ _ _ (by omega)).mono ?_; rintro e w' ⟨rfl, rfl⟩) | (go_at_call 71; refine (refIn_no _ _ _ _ (by omega)).mono ?_; rintro e w' ⟨rfl, rfl⟩) | (go_at_call 71; refine (HWH.out _ _ _ _).mono ?_; rintro e w' ⟨rfl, rfl⟩))
      go_ret
      exact ⟨ret_bool HF.out.symm, (Below.refl _ _).alloc (Nat.le_refl _) _⟩
    case pos =>
    by_cases h2 : 1 ≤ room ∧ room ≤ 40
    case neg =>
      clear hall
      go_enter Tryz.func55, Tryz.ntmps55
      go_wp2_with (first | (go_at_call 71; refine (refIn_yes _ _ _ _ (by omega)).mono ?_; rintro e w' ⟨rfl, rfl⟩) | (go_at_call 71; refine (refIn_no _ _ _ _ (by omega)).mono ?_; rintro e w' ⟨rfl, rfl⟩) | (go_at_call 71; refine (HWH.out _ _ _ _).mono ?_; rintro e w' ⟨rfl, rfl⟩))
      go_ret
      exact ⟨ret_bool HF.out.symm, (Below.refl _ _).alloc (Nat.le_refl _) _⟩
    case pos =>
    by_cases h3 : 1 ≤ poll ∧ poll ≤ 20
    case neg =>
      clear hall
      go_enter Tryz.func55, Tryz.ntmps55
      go_wp2_with (first | (go_at_call 71; refine (refIn_yes _ _ _ _ (by omega)).mono ?_; rintro e w' ⟨rfl, rfl⟩) | (go_at_call 71; refine (refIn_no _ _ _ _ (by omega)).mono ?_; rintro e w' ⟨rfl, rfl⟩) | (go_at_call 71; refine (HWH.out _ _ _ _).mono ?_; rintro e w' ⟨rfl, rfl⟩))
      go_ret
      exact ⟨ret_bool HF.out.symm, (Below.refl _ _).alloc (Nat.le_refl _) _⟩
    case pos =>
    by_cases h4 : 0 ≤ idle ∧ idle ≤ 20
    case neg =>
      clear hall
      go_enter Tryz.func55, Tryz.ntmps55
      go_wp2_with (first | (go_at_call 71; refine (refIn_yes _ _ _ _ (by omega)).mono ?_; rintro e w' ⟨rfl, rfl⟩) | (go_at_call 71; refine (refIn_no _ _ _ _ (by omega)).mono ?_; rintro e w' ⟨rfl, rfl⟩) | (go_at_call 71; refine (HWH.out _ _ _ _).mono ?_; rintro e w' ⟨rfl, rfl⟩))
      go_ret
      exact ⟨ret_bool HF.out.symm, (Below.refl _ _).alloc (Nat.le_refl _) _⟩
    case pos =>
    by_cases h5 : 0 ≤ sw ∧ sw ≤ 20
    case neg =>
      clear hall
      go_enter Tryz.func55, Tryz.ntmps55
      go_wp2_with (first | (go_at_call 71; refine (refIn_yes _ _ _ _ (by omega)).mono ?_; rintro e w' ⟨rfl, rfl⟩) | (go_at_call 71; refine (refIn_no _ _ _ _ (by omega)).mono ?_; rintro e w' ⟨rfl, rfl⟩) | (go_at_call 71; refine (HWH.out _ _ _ _).mono ?_; rintro e w' ⟨rfl, rfl⟩))
      go_ret
      exact ⟨ret_bool HF.out.symm, (Below.refl _ _).alloc (Nat.le_refl _) _⟩
    case pos =>
    by_cases h6 : 1 ≤ n ∧ n ≤ 6
    case neg =>
      clear hall
      go_enter Tryz.func55, Tryz.ntmps55
      go_wp2_with (first | (go_at_call 71; refine (refIn_yes _ _ _ _ (by omega)).mono ?_; rintro e w' ⟨rfl, rfl⟩) | (go_at_call 71; refine (refIn_no _ _ _ _ (by omega)).mono ?_; rintro e w' ⟨rfl, rfl⟩) | (go_at_call 71; refine (HWH.out _ _ _ _).mono ?_; rintro e w' ⟨rfl, rfl⟩))
      go_ret
      exact ⟨ret_bool HF.out.symm, (Below.refl _ _).alloc (Nat.le_refl _) _⟩
    case pos =>
    exact absurd ⟨h1, h2, h3, h4, h5, h6⟩ hall
  case pos =>
  obtain ⟨h1, h2, h3, h4, h5, h6, h6'⟩ := hall
  have HOK2 : Hid (cfgOk ⟨lines, room, poll, idle, sw, ts⟩ = ts.all taskOk) := by rw [HOK.out, decide_eq_true h1, decide_eq_true h2, decide_eq_true h3, decide_eq_true h4, decide_eq_true h5, decide_eq_true ⟨h6, h6'⟩]; rfl
  rcases HS.out with he | ⟨sb, so, rfl, hlt, hc⟩
  · exfalso; have := H.out; rw [he] at this; simp at this; omega
  have HC := hide hc
  clear hc HS HOK
  go_enter Tryz.func55, Tryz.ntmps55
  go_wp2_with (go_at_call 71; refine (refIn_yes _ _ _ _ (by omega)).mono ?_; rintro e w' ⟨rfl, rfl⟩)
  go_loopw [9] (fun i wr => ∃ (k : Nat), i = .int .i64 k ∧ k ≤ n ∧ ts.all taskOk = (ts.drop k).all taskOk ∧ Below w.heap.size w wr ∧ Blk wr w.heap.size #[.int .i64 lines, .int .i64 room, .int .i64 poll, .int .i64 idle, .int .i64 sw, .slice (some ⟨sb, so, none⟩) n scap] 40) (fun i _ => n - (intOf i).toNat)
  case atStart => exact ⟨0, rfl, Nat.zero_le _, rfl, (Below.refl _ _).alloc (Nat.le_refl _) _, Blk.new _ _ _⟩
  case round =>
    obtain ⟨k, rfl, hk, he, hbel, hblk⟩ := hrel
    have HE := hide he
    have HBE := hide hbel
    have HBK := hide hblk
    have c5 : wr.cell? ⟨w.heap.size, 5, none⟩ = some (.slice (some ⟨sb, so, none⟩) n scap) := hblk.cell 5
    have hsz := hblk.lt
    clear he hbel hblk
    by_cases hlt2 : k < n
    · obtain ⟨t, hl⟩ := get_of_lt (l := ts) (k := k) (by rw [H.out]; exact hlt2)
      obtain ⟨d0, d1, s, d2, hs⟩ := (HC.out k _ hl).later HBE.out hB (by omega)
      obtain ⟨ta, tcap, rfl⟩ := hs.slice
      have HD := hide (drop_cons hl)
      have HS2 := hide hs
      clear hl hs
      go_wp2_with fail
      refine (taskFits_any _ B t _ ⟨_, rfl, HS2.out⟩ (by omega)).mono ?_
      rintro e w1 ⟨rfl, b1⟩
      have HB1 := hide (HBE.out.trans (b1.mono (by omega)))
      have HK1 := hide (HBK.out.later b1 hsz)
      clear b1 c5 d0 d1 d2 HBE HBK
      cases ht : taskOk t
      · go_wp2
        go_ret
        refine ⟨ret_bool ?_, HB1.out⟩
        rw [HOK2.out, HE.out, HD.out]; simp [ht]
      · go_wp2
        go_roundw
        case rel => exact ⟨k + 1, by go_num, by omega, HE.out.trans (by rw [HD.out]; simp [ht]), HB1.out, HK1.out⟩
        case measure => simp [intOf]; omega
    · go_wp2
      go_ret
      refine ⟨ret_bool ?_, HBE.out⟩
      rw [HOK2.out, HE.out, List.drop_eq_nil_of_le (by rw [H.out]; omega)]; rfl

end Go.Proofs.YthloffgebebijaaGreat
