/- RefA: the walks of the reference's tests on a configuration: they come to the same as the program's. -/
import Derived.Test.YthloffgebebijaaGreatRows
import Derived.Test.YthloffgebebijaaGreatData
import Derived.Test.YthloffgebebijaaGreatValidK
import Derived.Deep.QuietTactic
import Derived.BigQuiet
import Derived.Test.YthloffgebebijaaGreatDrewN
import Derived.Test.YthloffgebebijaaGreatBytesB
namespace Go.Proofs.YthloffgebebijaaGreat
open Go.RowKit

theorem refIn_yes (a b c : Int) (w : World) (h : b ≤ a ∧ a ≤ c) :
    Calls Tryz.prog 71 #[.int .i64 a, .int .i64 b, .int .i64 c] w fun e w' => e = .returned (.bool true) ∧ w = w' := by
  obtain ⟨h1, h2⟩ := h
  go_enter Tryz.func71, Tryz.ntmps71
  go_wp2
  go_ret
  exact ⟨rfl, rfl⟩
theorem refIn_no (a b c : Int) (w : World) (h : ¬ (b ≤ a ∧ a ≤ c)) :
    Calls Tryz.prog 71 #[.int .i64 a, .int .i64 b, .int .i64 c] w fun e w' => e = .returned (.bool false) ∧ w = w' := by
  by_cases h1 : b ≤ a
  · have h2 : decide (a ≤ c) = false := by simp; omega
    clear h
    go_enter Tryz.func71, Tryz.ntmps71
    go_wp2
    go_ret
    exact ⟨rfl, rfl⟩
  · clear h
    have h2 : decide (b ≤ a) = false := by simpa using h1
    go_enter Tryz.func71, Tryz.ntmps71
    go_wp2
    go_ret
    exact ⟨rfl, rfl⟩

set_option maxRecDepth 100000 in
set_option maxHeartbeats 1600000 in
theorem taskFits_any (v : Value) (B : Nat) (t : Tk) (w : World) (hv : Task1 w B v t) (hB : B ≤ w.heap.size) :
    Calls Tryz.prog 80 #[v] w fun e w' => e = .returned (.bool (taskOk t)) ∧ Below w.heap.size w w' := by
  obtain ⟨s, rfl, hs⟩ := hv
  obtain ⟨cost, due, ls⟩ := t
  simp only at hs ⊢
  obtain ⟨sa, scap, rfl, hs⟩ := hs
  generalize hn : ls.length = n at *
  have H : Hid (ls.length = n) := hn
  have HS := hide hs
  clear hn hs
  have HOK : Hid (taskOk ⟨cost, due, ls⟩ = (decide (1 ≤ cost ∧ cost ≤ 50) && (decide (1 ≤ due ∧ due ≤ 400) && (decide (1 ≤ n ∧ n ≤ 3) && vl (0, 0) ls)))) := by simp only [Hid, taskOk, limsOk, H.out]
  by_cases hall : (1 ≤ cost ∧ cost ≤ 50) ∧ (1 ≤ due ∧ due ≤ 400) ∧ (1 ≤ n ∧ n ≤ 3)
  case neg =>
    have HF : Hid (taskOk ⟨cost, due, ls⟩ = false) := by
      rw [HOK.out]
      apply Bool.eq_false_iff.2
      intro h
      simp only [Bool.and_eq_true, decide_eq_true_eq] at h
      exact hall ⟨h.1, h.2.1, h.2.2.1⟩
    by_cases h1 : 1 ≤ cost ∧ cost ≤ 50 <;> by_cases h2 : 1 ≤ due ∧ due ≤ 400 <;> by_cases h3 : 1 ≤ n ∧ n ≤ 3
    · exact absurd ⟨h1, h2, h3⟩ hall
    all_goals
      clear hall
      go_enter Tryz.func80, Tryz.ntmps80
      go_wp2_with (first | (go_at_call 71; refine (refIn_yes _ _ _ _ (by omega)).mono ?_; rintro e w' ⟨rfl, rfl⟩) | (go_at_call 71; refine (refIn_no _ _ _ _ (by omega)).mono ?_; rintro e w' ⟨rfl, rfl⟩))
      go_ret
      exact ⟨ret_bool HF.out.symm, (Below.refl _ _).alloc (Nat.le_refl _) _⟩
  case pos =>
  obtain ⟨h1, h2, h3, h3'⟩ := hall
  have HOK2 : Hid (taskOk ⟨cost, due, ls⟩ = vl (0, 0) ls) := by rw [HOK.out, decide_eq_true h1, decide_eq_true h2, decide_eq_true ⟨h3, h3'⟩]; rfl
  rcases HS.out with he | ⟨sb, so, rfl, hlt, hc⟩
  · exfalso; have := H.out; rw [he] at this; simp at this; omega
  have HC := hide hc
  clear hc HS HOK
  go_enter Tryz.func80, Tryz.ntmps80
  go_wp2_with (go_at_call 71; refine (refIn_yes _ _ _ _ (by omega)).mono ?_; rintro e w' ⟨rfl, rfl⟩)
  go_loopw [6] (fun i wr => ∃ (k : Nat) (a : Int × Int), i = .int .i64 k ∧ k ≤ n ∧ vl (0, 0) ls = vl a (ls.drop k) ∧ 0 ≤ a.1 ∧ 0 ≤ a.2 ∧ (k = 0 → a = (0, 0)) ∧ (0 < k → ls[k - 1]? = some a) ∧ Below w.heap.size w wr ∧ Blk wr w.heap.size #[.int .i64 cost, .int .i64 due, .slice (some ⟨sb, so, none⟩) n scap] 55) (fun i _ => n - (intOf i).toNat)
  case atStart => exact ⟨0, (0, 0), rfl, Nat.zero_le _, rfl, by simp, by simp, by simp, by simp, (Below.refl _ _).alloc (Nat.le_refl _) _, Blk.new _ _ _⟩
  case round =>
    obtain ⟨k, ⟨a1, a2⟩, rfl, hk, he, p0, p1, hz, hprev, hbel, hblk⟩ := hrel
    simp only at p0 p1
    have HE := hide he
    have HZ := hide hz
    have HP := hide hprev
    have HBE := hide hbel
    have HBK := hide hblk
    have c2 : wr.cell? ⟨w.heap.size, 2, none⟩ = some (.slice (some ⟨sb, so, none⟩) n scap) := hblk.cell 2
    have hsz := hblk.lt
    clear he hz hprev hbel hblk
    by_cases hlt2 : k < n
    · obtain ⟨⟨l1, l2⟩, hl⟩ := get_of_lt (l := ls) (k := k) (by rw [H.out]; exact hlt2)
      obtain ⟨d0, d1⟩ := (HC.out k _ hl).later HBE.out (by omega)
      have HD := hide (drop_cons hl)
      have HG := hide hl
      have hsb : sb < wr.heap.size := by omega
      clear hl
      by_cases hw : 1 ≤ l1 ∧ l1 ≤ 500
      · by_cases hcn : 1 ≤ l2 ∧ l2 ≤ 20
        · by_cases hk0 : k = 0
          · subst hk0
            simp only [Nat.zero_mul, Nat.add_zero] at d0 d1
            go_wp2_with (go_at_call 71; refine (refIn_yes _ _ _ _ (by omega)).mono ?_; rintro e w' ⟨rfl, rfl⟩)
            go_quiet ((fail))
            have HV : Hid (vl (a1, a2) ((l1, l2) :: ls.drop (0 + 1)) = vl (l1, l2) (ls.drop (0 + 1))) := by
              have := HZ.out (by trivial)
              simp only [Prod.mk.injEq] at this
              simp only [Hid, vl]
              rw [decide_eq_true (by omega), decide_eq_true (by omega)]
              rfl
            go_wp2
            go_roundw
            case rel => exact ⟨0 + 1, (l1, l2), by go_num, by omega, HE.out.trans (by rw [HD.out]; exact HV.out), by simp; omega, by simp; omega, by simp, fun _ => HG.out, Below.drewN (HBE.out.alloc (by omega) _) _, HBK.out.alloc _⟩
            case measure => simp [intOf]; omega
          · obtain ⟨j, rfl⟩ : ∃ j, k = j + 1 := ⟨k - 1, by omega⟩
            obtain ⟨q0, q1⟩ := (HC.out j _ (HP.out (by omega))).later HBE.out (by omega)
            simp only at q0 q1
            have hkz : decide ((0 : Int) < ((j : Int) + 1)) = true := by simp
            by_cases hq1 : l1 ≤ a1
            · have HV : Hid (vl (a1, a2) ((l1, l2) :: ls.drop (j + 1 + 1)) = false) := by
                simp only [Hid, vl]; rw [decide_eq_false (by omega)]; rfl
              go_wp2_with (go_at_call 71; refine (refIn_yes _ _ _ _ (by omega)).mono ?_; rintro e w' ⟨rfl, rfl⟩)
              go_quiet ((fail))
              go_wp2
              go_ret
              refine ⟨ret_bool ?_, Below.drewN (HBE.out.alloc (by omega) _) _⟩
              rw [HOK2.out, HE.out, HD.out, HV.out]
            · by_cases hq2 : l2 ≤ a2
              · have HV : Hid (vl (a1, a2) ((l1, l2) :: ls.drop (j + 1 + 1)) = false) := by
                  simp only [Hid, vl]; rw [decide_eq_true (by omega), decide_eq_false (by omega)]; rfl
                have hd1 : decide (l1 ≤ a1) = false := by simpa using hq1
                go_wp2_with (go_at_call 71; refine (refIn_yes _ _ _ _ (by omega)).mono ?_; rintro e w' ⟨rfl, rfl⟩)
                go_quiet ((fail))
                go_wp2
                go_ret
                refine ⟨ret_bool ?_, Below.drewN (HBE.out.alloc (by omega) _) _⟩
                rw [HOK2.out, HE.out, HD.out, HV.out]
              · have HV : Hid (vl (a1, a2) ((l1, l2) :: ls.drop (j + 1 + 1)) = vl (l1, l2) (ls.drop (j + 1 + 1))) := by
                  simp only [Hid, vl]; rw [decide_eq_true (by omega), decide_eq_true (by omega)]; rfl
                have hd1 : decide (l1 ≤ a1) = false := by simpa using hq1
                have hd2 : decide (l2 ≤ a2) = false := by simpa using hq2
                go_wp2_with (go_at_call 71; refine (refIn_yes _ _ _ _ (by omega)).mono ?_; rintro e w' ⟨rfl, rfl⟩)
                go_quiet ((fail))
                go_wp2
                go_roundw
                case rel => exact ⟨(j + 1) + 1, (l1, l2), by go_num, by omega, HE.out.trans (by rw [HD.out]; exact HV.out), by simp; omega, by simp; omega, by simp, fun _ => HG.out, Below.drewN (HBE.out.alloc (by omega) _) _, HBK.out.alloc _⟩
                case measure => simp [intOf]; omega
        · have HV : Hid (vl (a1, a2) ((l1, l2) :: ls.drop (k + 1)) = false) := by
            simp only [Hid, vl]; rw [decide_eq_false (p := a2 + 1 ≤ l2 ∧ l2 ≤ 20) (by omega)]; simp
          go_wp2_with (first | (go_at_call 71; refine (refIn_yes _ _ _ _ (by omega)).mono ?_; rintro e w' ⟨rfl, rfl⟩) | (go_at_call 71; refine (refIn_no _ _ _ _ (by omega)).mono ?_; rintro e w' ⟨rfl, rfl⟩))
          go_quiet ((fail))
          go_wp2
          go_ret
          refine ⟨ret_bool ?_, Below.drewN (HBE.out.alloc (by omega) _) _⟩
          rw [HOK2.out, HE.out, HD.out, HV.out]
      · have HV : Hid (vl (a1, a2) ((l1, l2) :: ls.drop (k + 1)) = false) := by
          simp only [Hid, vl]; rw [decide_eq_false (p := a1 + 1 ≤ l1 ∧ l1 ≤ 500) (by omega)]; simp
        by_cases hcn : 1 ≤ l2 ∧ l2 ≤ 20
        all_goals
          go_wp2_with (first | (go_at_call 71; refine (refIn_yes _ _ _ _ (by omega)).mono ?_; rintro e w' ⟨rfl, rfl⟩) | (go_at_call 71; refine (refIn_no _ _ _ _ (by omega)).mono ?_; rintro e w' ⟨rfl, rfl⟩))
          go_quiet ((fail))
          go_wp2
          go_ret
          refine ⟨ret_bool ?_, Below.drewN (HBE.out.alloc (by omega) _) _⟩
          rw [HOK2.out, HE.out, HD.out, HV.out]
    · go_wp2
      go_ret
      refine ⟨ret_bool ?_, HBE.out⟩
      rw [HOK2.out, HE.out, List.drop_eq_nil_of_le (by rw [H.out]; omega)]; rfl

set_option maxRecDepth 100000 in
set_option maxHeartbeats 3200000 in
theorem refFits_any (v : Value) (B : Nat) (c : Cfg) (w : World) (hv : Cf w B v c) (hB : B ≤ w.heap.size) :
    Calls Tryz.prog 55 #[v] w fun e w' => e = .returned (.bool (cfgOk c)) ∧ Below w.heap.size w w' := by
  obtain ⟨s, rfl, hs⟩ := hv
  obtain ⟨lines, room, poll, idle, sw, ts⟩ := c
  simp only at hs ⊢
  obtain ⟨sa, scap, rfl, hs⟩ := hs
  generalize hn : ts.length = n at *
  have H : Hid (ts.length = n) := hn
  have HS := hide hs
  clear hn hs
  have HOK : Hid (cfgOk ⟨lines, room, poll, idle, sw, ts⟩ = (decide (1 ≤ lines ∧ lines ≤ 4) && (decide (1 ≤ room ∧ room ≤ 40) && (decide (1 ≤ poll ∧ poll ≤ 20) && (decide (0 ≤ idle ∧ idle ≤ 20) && (decide (0 ≤ sw ∧ sw ≤ 20) && (decide (1 ≤ n ∧ n ≤ 6) && ts.all taskOk))))))) := by simp only [Hid, cfgOk, tasksOk, H.out]
  by_cases hall : (1 ≤ lines ∧ lines ≤ 4) ∧ (1 ≤ room ∧ room ≤ 40) ∧ (1 ≤ poll ∧ poll ≤ 20) ∧ (0 ≤ idle ∧ idle ≤ 20) ∧ (0 ≤ sw ∧ sw ≤ 20) ∧ (1 ≤ n ∧ n ≤ 6)
  case neg =>
    have HF : Hid (cfgOk ⟨lines, room, poll, idle, sw, ts⟩ = false) := by
      rw [HOK.out]
      apply Bool.eq_false_iff.2
      intro h
      simp only [Bool.and_eq_true, decide_eq_true_eq] at h
      exact hall ⟨h.1, h.2.1, h.2.2.1, h.2.2.2.1, h.2.2.2.2.1, h.2.2.2.2.2.1⟩
    have HW : ∀ x lo hi w', Calls Tryz.prog 71 #[.int .i64 x, .int .i64 lo, .int .i64 hi] w' fun e w'' => e = .returned (.bool (decide (lo ≤ x ∧ x ≤ hi))) ∧ w' = w'' := fun x lo hi w' => by
      by_cases h : lo ≤ x ∧ x ≤ hi
      · rw [decide_eq_true h]; exact refIn_yes x lo hi w' h
      · rw [decide_eq_false h]; exact refIn_no x lo hi w' h
    have HWH := hide HW
    clear HW
    by_cases h1 : 1 ≤ lines ∧ lines ≤ 4
    case neg =>
      clear hall
      go_enter Tryz.func55, Tryz.ntmps55
      go_wp2_with (first | (go_at_call 71; refine (refIn_yes _ _ _ _ (by omega)).mono ?_; rintro e w' ⟨rfl, rfl⟩) | (go_at_call 71; refine (refIn_no _ _ _ _ (by omega)).mono ?_; rintro e w' ⟨rfl, rfl⟩) | (go_at_call 71; refine (HWH.out _ _ _ _).mono ?_; rintro e w' ⟨rfl, rfl⟩))
      go_ret
      exact ⟨ret_bool HF.out.symm, (Below.refl _ _).alloc (Nat.le_refl _) _⟩
    case pos =>
    by_cases h2 : 1 ≤ room ∧ room ≤ 40
    case neg =>
      clear hall
      go_enter Tryz.func55, Tryz.ntmps55
      go_wp2_with (first | (go_at_call 71; refine (refIn_yes _ _ _ _ (by omega)).mono ?_; rintro e w' ⟨rfl, rfl⟩) | (go_at_call 71; refine (refIn_no _ _ _ _ (by omega)).mono ?_; rintro e w' ⟨rfl, rfl⟩) | (go_at_call 71; refine (HWH.out _ _ _ _).mono ?_; rintro e w' ⟨rfl, rfl⟩))
      go_ret
      exact ⟨ret_bool HF.out.symm, (Below.refl _ _).alloc (Nat.le_refl _) _⟩
    case pos =>
    by_cases h3 : 1 ≤ poll ∧ poll ≤ 20
    case neg =>
      clear hall
      go_enter Tryz.func55, Tryz.ntmps55
      go_wp2_with (first | (go_at_call 71; refine (refIn_yes _ _ _ _ (by omega)).mono ?_; rintro e w' ⟨rfl, rfl⟩) | (go_at_call 71; refine (refIn_no _ _ _ _ (by omega)).mono ?_; rintro e w' ⟨rfl, rfl⟩) | (go_at_call 71; refine (HWH.out _ _ _ _).mono ?_; rintro e w' ⟨rfl, rfl⟩))
      go_ret
      exact ⟨ret_bool HF.out.symm, (Below.refl _ _).alloc (Nat.le_refl _) _⟩
    case pos =>
    by_cases h4 : 0 ≤ idle ∧ idle ≤ 20
    case neg =>
      clear hall
      go_enter Tryz.func55, Tryz.ntmps55
      go_wp2_with (first | (go_at_call 71; refine (refIn_yes _ _ _ _ (by omega)).mono ?_; rintro e w' ⟨rfl, rfl⟩) | (go_at_call 71; refine (refIn_no _ _ _ _ (by omega)).mono ?_; rintro e w' ⟨rfl, rfl⟩) | (go_at_call 71; refine (HWH.out _ _ _ _).mono ?_; rintro e w' ⟨rfl, rfl⟩))
      go_ret
      exact ⟨ret_bool HF.out.symm, (Below.refl _ _).alloc (Nat.le_refl _) _⟩
    case pos =>
    by_cases h5 : 0 ≤ sw ∧ sw ≤ 20
    case neg =>
      clear hall
      go_enter Tryz.func55, Tryz.ntmps55
      go_wp2_with (first | (go_at_call 71; refine (refIn_yes _ _ _ _ (by omega)).mono ?_; rintro e w' ⟨rfl, rfl⟩) | (go_at_call 71; refine (refIn_no _ _ _ _ (by omega)).mono ?_; rintro e w' ⟨rfl, rfl⟩) | (go_at_call 71; refine (HWH.out _ _ _ _).mono ?_; rintro e w' ⟨rfl, rfl⟩))
      go_ret
      exact ⟨ret_bool HF.out.symm, (Below.refl _ _).alloc (Nat.le_refl _) _⟩
    case pos =>
    by_cases h6 : 1 ≤ n ∧ n ≤ 6
    case neg =>
      clear hall
      go_enter Tryz.func55, Tryz.ntmps55
      go_wp2_with (first | (go_at_call 71; refine (refIn_yes _ _ _ _ (by omega)).mono ?_; rintro e w' ⟨rfl, rfl⟩) | (go_at_call 71; refine (refIn_no _ _ _ _ (by omega)).mono ?_; rintro e w' ⟨rfl, rfl⟩) | (go_at_call 71; refine (HWH.out _ _ _ _).mono ?_; rintro e w' ⟨rfl, rfl⟩))
      go_ret
      exact ⟨ret_bool HF.out.symm, (Below.refl _ _).alloc (Nat.le_refl _) _⟩
    case pos =>
    exact absurd ⟨h1, h2, h3, h4, h5, h6⟩ hall
  case pos =>
  obtain ⟨h1, h2, h3, h4, h5, h6, h6'⟩ := hall
  have HOK2 : Hid (cfgOk ⟨lines, room, poll, idle, sw, ts⟩ = ts.all taskOk) := by rw [HOK.out, decide_eq_true h1, decide_eq_true h2, decide_eq_true h3, decide_eq_true h4, decide_eq_true h5, decide_eq_true ⟨h6, h6'⟩]; rfl
  rcases HS.out with he | ⟨sb, so, rfl, hlt, hc⟩
  · exfalso; have := H.out; rw [he] at this; simp at this; omega
  have HC := hide hc
  clear hc HS HOK
  go_enter Tryz.func55, Tryz.ntmps55
  go_wp2_with (go_at_call 71; refine (refIn_yes _ _ _ _ (by omega)).mono ?_; rintro e w' ⟨rfl, rfl⟩)
  go_loopw [9] (fun i wr => ∃ (k : Nat), i = .int .i64 k ∧ k ≤ n ∧ ts.all taskOk = (ts.drop k).all taskOk ∧ Below w.heap.size w wr ∧ Blk wr w.heap.size #[.int .i64 lines, .int .i64 room, .int .i64 poll, .int .i64 idle, .int .i64 sw, .slice (some ⟨sb, so, none⟩) n scap] 40) (fun i _ => n - (intOf i).toNat)
  case atStart => exact ⟨0, rfl, Nat.zero_le _, rfl, (Below.refl _ _).alloc (Nat.le_refl _) _, Blk.new _ _ _⟩
  case round =>
    obtain ⟨k, rfl, hk, he, hbel, hblk⟩ := hrel
    have HE := hide he
    have HBE := hide hbel
    have HBK := hide hblk
    have c5 : wr.cell? ⟨w.heap.size, 5, none⟩ = some (.slice (some ⟨sb, so, none⟩) n scap) := hblk.cell 5
    have hsz := hblk.lt
    clear he hbel hblk
    by_cases hlt2 : k < n
    · obtain ⟨t, hl⟩ := get_of_lt (l := ts) (k := k) (by rw [H.out]; exact hlt2)
      obtain ⟨d0, d1, s, d2, hs⟩ := (HC.out k _ hl).later HBE.out hB (by omega)
      obtain ⟨ta, tcap, rfl⟩ := hs.slice
      have HD := hide (drop_cons hl)
      have HS2 := hide hs
      clear hl hs
      go_wp2_with fail
      refine (taskFits_any _ B t _ ⟨_, rfl, HS2.out⟩ (by omega)).mono ?_
      rintro e w1 ⟨rfl, b1⟩
      have HB1 := hide (HBE.out.trans (b1.mono (by omega)))
      have HK1 := hide (HBK.out.later b1 hsz)
      clear b1 c5 d0 d1 d2 HBE HBK
      cases ht : taskOk t
      · go_wp2
        go_ret
        refine ⟨ret_bool ?_, HB1.out⟩
        rw [HOK2.out, HE.out, HD.out]; simp [ht]
      · go_wp2
        go_roundw
        case rel => exact ⟨k + 1, by go_num, by omega, HE.out.trans (by rw [HD.out]; simp [ht]), HB1.out, HK1.out⟩
        case measure => simp [intOf]; omega
    · go_wp2
      go_ret
      refine ⟨ret_bool ?_, HBE.out⟩
      rw [HOK2.out, HE.out, List.drop_eq_nil_of_le (by rw [H.out]; omega)]; rfl

end Go.Proofs.YthloffgebebijaaGreat

/- RefB: the walk of the reference's Encode: it gives the same bytes as the program's. -/
namespace Go.Proofs.YthloffgebebijaaGreat
open Go.RowKit

theorem sumTake_le (l : List Int) (h : ∀ x ∈ l, 0 ≤ x ∧ x < 256) (k : Nat) : 0 ≤ (l.take k).sum ∧ (l.take k).sum ≤ 255 * k := by
  induction k generalizing l with
  | zero => simp
  | succ k ih =>
    cases l with
    | nil => simp; omega
    | cons x r =>
      have := ih r (fun y hy => h y (by simp [hy]))
      have := h x (by simp)
      simp only [List.take_succ_cons, List.sum_cons]
      omega

set_option maxRecDepth 100000 in
set_option maxHeartbeats 1600000 in
theorem refEncode_yes (B : Nat) (v : Value) (c : Cfg) (w : World) (hv : Cf w B v c) (hB : B ≤ w.heap.size) (hok : cfgOk c = true) :
    Calls Tryz.prog 25 #[v] w fun e w' => ∃ v', e = .returned (.tuple #[v', .int .i64 0]) ∧ Own8 w' w.heap.size 5 v' (cfgBytes c) ∧ Below w.heap.size w w' := by
  have HV := hide hv
  obtain ⟨s, rfl, hs⟩ := hv
  have HBY := hide (cfgBytes0_byte hok)
  obtain ⟨h1, h2, h3, h4, h5, h6, h7⟩ := cfgOk_parts hok
  obtain ⟨lines, room, poll, idle, sw, ts⟩ := c
  simp only at h1 h2 h3 h4 h5 h6 h7 hs
  obtain ⟨h1, h1'⟩ := h1; obtain ⟨h2, h2'⟩ := h2; obtain ⟨h3, h3'⟩ := h3; obtain ⟨h4, h4'⟩ := h4; obtain ⟨h5, h5'⟩ := h5; obtain ⟨h6, h6'⟩ := h6
  obtain ⟨sa, scap, rfl, hs⟩ := hs
  rcases hs with rfl | ⟨sb, so, rfl, hsb, hc⟩
  · simp at h6
  have HC := hide hc
  have HA := hide h7
  have HOK := hide hok
  clear hc hok h7
  have hb0 : ∀ o, Below w.heap.size w (w.alloc o) := fun o => (Below.refl _ _).alloc (Nat.le_refl _) _
  generalize hn : ts.length = n at *
  have HN := hide hn
  clear hn
  go_enter Tryz.func25, Tryz.ntmps25
  go_wp2_with fail
  refine (refFits_any _ B ⟨lines, room, poll, idle, sw, ts⟩ _ (HV.out.later (hb0 _) hB) (by simp; omega)).mono ?_
  rintro e w1 ⟨rfl, q1⟩
  have HB1 := hide ((hb0 (.cells #[.int .i64 lines, .int .i64 room, .int .i64 poll, .int .i64 idle, .int .i64 sw, .slice (some ⟨sb, so, none⟩) n scap] 40)).trans (q1.mono (by simp)))
  have K1 := (Blk.new w #[.int .i64 lines, .int .i64 room, .int .i64 poll, .int .i64 idle, .int .i64 sw, .slice (some ⟨sb, so, none⟩) n scap] 40).later q1 (by simp)
  have HK1 := hide K1
  have x0 : w1.cell? ⟨w.heap.size, 0, none⟩ = some (.int .i64 lines) := K1.cell 0
  have x1 : w1.cell? ⟨w.heap.size, 1, none⟩ = some (.int .i64 room) := K1.cell 1
  have x2 : w1.cell? ⟨w.heap.size, 2, none⟩ = some (.int .i64 poll) := K1.cell 2
  have x3 : w1.cell? ⟨w.heap.size, 3, none⟩ = some (.int .i64 idle) := K1.cell 3
  have x4 : w1.cell? ⟨w.heap.size, 4, none⟩ = some (.int .i64 sw) := K1.cell 4
  have x5 : w1.cell? ⟨w.heap.size, 5, none⟩ = some (.slice (some ⟨sb, so, none⟩) n scap) := K1.cell 5
  have hz1 := K1.lt
  rw [HOK.out]
  clear q1 K1 HV hb0
  go_wp2_with fail
  go_loopw [5, 6] (fun b i wr => ∃ k : Nat, i = .int .i64 k ∧ k ≤ n ∧ Own8 wr w.heap.size 5 b ([84, lines, room, poll, idle, sw, (n : Int)] ++ (ts.take k).flatMap taskBytes) ∧ Below w.heap.size w wr ∧ Blk wr w.heap.size #[.int .i64 lines, .int .i64 room, .int .i64 poll, .int .i64 idle, .int .i64 sw, .slice (some ⟨sb, so, none⟩) n scap] 40) (fun _ i _ => n - (intOf i).toNat)
  case atStart =>
    refine ⟨0, rfl, Nat.zero_le _, ?_, HB1.out.alloc (by omega) _, HK1.out.alloc _⟩
    have := World.ownsRow_lit (base := w.heap.size) (e := 5) (size := 1) w1 #[.int .u8 84, .int .u8 lines, .int .u8 room, .int .u8 poll, .int .u8 idle, .int .u8 sw, .int .u8 n] 7 (by omega) (by unfold maxLen; omega) (by simp)
    simpa [Own8] using this
  case round =>
    obtain ⟨k, rfl, hk, ho, hq, hbk⟩ := hrel
    have hz := hq.size
    have y5 : wr.cell? ⟨w.heap.size, 5, none⟩ = some (.slice (some ⟨sb, so, none⟩) n scap) := hbk.cell 5
    have hzk := hbk.lt
    have HO := hide ho
    have HQ := hide hq
    have HBK := hide hbk
    clear ho hq hbk x0 x1 x2 x3 x4 x5
    by_cases hlt : k < n
    · obtain ⟨t, hl⟩ := get_of_lt (l := ts) (k := k) (by rw [HN.out]; exact hlt)
      obtain ⟨d0, d1, s, d2, hs⟩ := (HC.out k _ hl).later HQ.out hB (by omega)
      have hto := List.all_eq_true.1 HA.out t (List.mem_of_getElem? hl)
      have HT := hide (take_snoc hl)
      have HLN := hide (flat_len (all_take HA.out k))
      obtain ⟨cost, due, ls⟩ := t
      simp only [taskOk, limsOk, Bool.and_eq_true, decide_eq_true_eq] at hto
      obtain ⟨⟨k1, k2⟩, ⟨k3, k4⟩, ⟨k5, k6⟩, k7⟩ := hto
      simp only at d0 d1 hs
      have HVL := hide (vl_bounds k7 (by decide) (by decide))
      obtain ⟨ta, tcap, rfl, hs⟩ := hs
      rcases hs with rfl | ⟨tb, to, rfl, htb, htc⟩
      · simp at k5
      have HTC := hide htc
      clear hl k7 htc
      generalize hm : ls.length = m at *
      have HM := hide hm
      clear hm
      obtain ⟨W0, hW0⟩ : ∃ W, W = wr := ⟨_, rfl⟩
      subst hW0
      have HTB := hide (Blk.new W0 #[.int .i64 cost, .int .i64 due, .slice (some ⟨tb, to, none⟩) m tcap] 55)
      have hlen : ([84, lines, room, poll, idle, sw, (n : Int)] ++ (ts.take k).flatMap taskBytes).length ≤ 100 := by
        have := HLN.out; rw [List.length_take] at this; simp only [List.length_append, List.length_cons, List.length_nil]; omega
      generalize hbs : [84, lines, room, poll, idle, sw, (n : Int)] ++ (ts.take k).flatMap taskBytes = bs at *
      have HBS := hide hbs
      clear hbs
      have hsw : sb < W0.heap.size := by omega
      go_wp2_with (at_builtin; go_must (refine wpList_app8 rfl _ _ rfl w.heap.size _ bs [cost, due / 256, due % 256, (m : Int)] rfl ((HO.out.alloc _).alloc _) _ _ _ rfl rfl (new_cells _ _ _ _ (by simp)) ?_ ?_ ?_))
      · simp; omega
      · simp; omega
      intro v3 w3 o3 q3
      have HO3 := hide o3
      have HK3 := hide ((((KeepBut.new (e := 5) (B := w.heap.size) W0 (.cells #[.int .i64 cost, .int .i64 due, .slice (some ⟨tb, to, none⟩) m tcap] 55))).trans (KeepBut.new _ _)).trans q3)
      have HT3 := hide ((HTB.out.alloc _).kept q3 (by decide))
      clear o3 q3 HTB d0 d1 d2 y5
      have z2 : w3.cell? ⟨W0.heap.size, 2, none⟩ = some (.slice (some ⟨tb, to, none⟩) m tcap) := HT3.out.cell 2
      have hzt := HT3.out.lt
      go_wp2_with fail
      go_loopw [5, 8] (fun b j wr => ∃ q : Nat, j = .int .i64 q ∧ q ≤ m ∧ Own8 wr w.heap.size 5 b (bs ++ [cost, due / 256, due % 256, (m : Int)] ++ limBytes (ls.take q)) ∧ KeepBut 5 w.heap.size W0 wr ∧ Blk wr W0.heap.size #[.int .i64 cost, .int .i64 due, .slice (some ⟨tb, to, none⟩) m tcap] 55) (fun _ j _ => m - (intOf j).toNat)
      case atStart => exact ⟨0, rfl, Nat.zero_le _, by simpa [limBytes] using HO3.out, HK3.out, HT3.out⟩
      case round =>
        obtain ⟨q, rfl, hq, ho, hkb, hbt⟩ := hrel
        have hzq := hbt.lt
        have z2' : wr.cell? ⟨W0.heap.size, 2, none⟩ = some (.slice (some ⟨tb, to, none⟩) m tcap) := hbt.cell 2
        have HOq := hide ho
        have HKq := hide hkb
        have HTq := hide hbt
        clear ho hkb hbt z2
        by_cases hlt2 : q < m
        · obtain ⟨⟨l1, l2⟩, hl⟩ := get_of_lt (l := ls) (k := q) (by rw [HM.out]; exact hlt2)
          obtain ⟨e0, e1⟩ := (HTC.out q _ hl).later (HKq.out.below hz) (by omega)
          obtain ⟨m1, m2, m3, m4⟩ := HVL.out _ (List.mem_of_getElem? hl)
          simp only at e0 e1 m1 m2 m3 m4
          have HTT := hide (take_snoc hl)
          have hln : (limBytes (ls.take q)).length ≤ 9 := by rw [limBytes_length, List.length_take]; omega
          have htw : tb < wr.heap.size := by omega
          clear hl
          go_wp2_with (at_builtin; go_must (refine wpList_app8 rfl _ _ rfl w.heap.size _ _ [l1 / 256, l1 % 256, l2] rfl ((HOq.out.alloc _).alloc _) _ _ _ rfl rfl (new_cells _ _ _ _ (by simp)) ?_ ?_ ?_))
          · simp; omega
          · simp; omega
          intro v5 w5 o5 q5
          have HO5 := hide o5
          have HK5 := hide (HKq.out.trans (((KeepBut.new _ _).trans (KeepBut.new _ _)).trans q5))
          have HT5 := hide (((HTq.out.alloc _).alloc _).kept q5 (by decide))
          clear o5 q5 e0 e1 z2'
          go_wp2
          go_roundw
          case rel =>
            refine ⟨q + 1, by go_num, by omega, ?_, HK5.out, HT5.out⟩
            have := HO5.out
            rw [HTT.out, limBytes_snoc]
            simpa [List.append_assoc] using this
          case measure => simp [intOf]; omega
        · go_wp2
          go_roundw
          case rel =>
            refine ⟨k + 1, by go_num, by omega, ?_, HQ.out.trans (HKq.out.below hz), HBK.out.kept HKq.out (by decide)⟩
            have := HOq.out
            rw [List.take_of_length_le (by rw [HM.out]; omega)] at this
            rw [HT.out, List.flatMap_append, ← List.append_assoc, HBS.out]
            simpa [taskBytes, HM.out, List.append_assoc] using this
          case measure => simp [intOf]; omega
    · have ho := HO.out
      rw [List.take_of_length_le (by rw [HN.out]; omega)] at ho
      have HE : Hid (cfgBytes0 ⟨lines, room, poll, idle, sw, ts⟩ = [84, lines, room, poll, idle, sw, (n : Int)] ++ ts.flatMap taskBytes) := by simp only [Hid, cfgBytes0, head7, HN.out]
      rw [← HE.out] at ho
      have HCB : Hid (cfgBytes ⟨lines, room, poll, idle, sw, ts⟩ = cfgBytes0 ⟨lines, room, poll, idle, sw, ts⟩ ++ [(-(bsum (cfgBytes0 ⟨lines, room, poll, idle, sw, ts⟩))) % 256]) := rfl
      have hl0 : (cfgBytes0 ⟨lines, room, poll, idle, sw, ts⟩).length ≤ 100 := by have := flat_len HA.out; rw [HN.out] at this; rw [HE.out]; simp only [List.length_append, List.length_cons, List.length_nil]; omega
      clear HO HE
      generalize hbs : cfgBytes0 ⟨lines, room, poll, idle, sw, ts⟩ = bs at *
      clear hbs
      have HO := hide ho
      obtain ⟨ba, bcap, rfl, hcap, hrd⟩ := ho.rd
      generalize hN : bs.length = N at *
      have HNN := hide hN
      have HRD := hide hrd
      clear ho hN hrd
      go_wp2_with fail
      go_loop [10, 11] (fun s i => ∃ q : Nat, i = .int .i64 q ∧ q ≤ N ∧ s = .int .i64 (bs.take q).sum) (fun _ i => N - (intOf i).toNat)
      case atStart => exact ⟨0, rfl, Nat.zero_le _, by simp⟩
      case round =>
        obtain ⟨q, rfl, hq, rfl⟩ := hrel
        have hsum := sumTake_le bs HBY.out q
        obtain ⟨hs0, hs1⟩ := hsum
        by_cases hlt2 : q < N
        · obtain ⟨x, hl⟩ := get_of_lt (l := bs) (k := q) (by rw [HNN.out]; exact hlt2)
          obtain ⟨e0, e1⟩ := HBY.out x (List.mem_of_getElem? hl)
          rcases HRD.out with he | ⟨b, o, rfl, hlb, hcc⟩
          · rw [he] at hl; simp at hl
          have d0 := hcc q x hl
          have HTT := hide (take_snoc hl)
          clear hcc hl
          generalize hS : (bs.take q).sum = S at *
          have HSS := hide hS
          clear hS
          go_wp2
          go_round
          case rel =>
            refine ⟨q + 1, by go_num, by omega, ?_⟩
            rw [HTT.out, List.sum_append, HSS.out]; simp
          case measure => simp [intOf]; omega
        · rw [List.take_of_length_le (by rw [HNN.out]; omega)] at hs0 hs1 ⊢
          have HBQ : Hid ((-(bsum bs)) % 256 = -(bs.sum % 256) % 256) := rfl
          generalize hS : bs.sum = S at *
          have HSS := hide hS
          clear hS
          go_wp2_with (at_builtin; go_must (refine wpList_app8 rfl _ _ rfl w.heap.size _ bs [-(S % 256) % 256] rfl (HO.out.alloc _) _ _ _ rfl rfl (new_cells _ _ _ _ rfl) ?_ ?_ ?_))
          · have := HNN.out; omega
          · first | omega | (simp; omega)
          intro v5 w5 o5 q5
          have HO5 := hide o5
          have HQ5 := hide ((HQ.out.alloc hz _).trans (q5.below (by simp; omega)))
          clear o5 q5
          go_wp2
          go_ret2
          exact ⟨_, rfl, by rw [HCB.out, HBQ.out]; exact HO5.out, HQ5.out⟩

set_option maxHeartbeats 400000 in
theorem refEncode_no (B : Nat) (v : Value) (c : Cfg) (w : World) (hv : Cf w B v c) (hB : B ≤ w.heap.size) (hok : cfgOk c = false) :
    Calls Tryz.prog 25 #[v] w fun e w' => e = .returned (.tuple #[.slice none 0 0, .int .i64 1]) ∧ Below w.heap.size w w' := by
  have HV := hide hv
  obtain ⟨s, rfl, hs⟩ := hv
  obtain ⟨sa, scap, rfl⟩ := hs.slice
  clear hs
  have hb0 : ∀ o, Below w.heap.size w (w.alloc o) := fun o => (Below.refl _ _).alloc (Nat.le_refl _) _
  go_enter Tryz.func25, Tryz.ntmps25
  go_wp2_with fail
  refine (refFits_any _ B c _ (HV.out.later (hb0 _) hB) (by simp; omega)).mono ?_
  rintro e w1 ⟨rfl, q1⟩
  have HQ := hide ((hb0 _).trans (q1.mono (by simp)))
  clear q1 HV
  rw [hok]
  go_wp2
  go_ret2
  exact ⟨rfl, HQ.out⟩

end Go.Proofs.YthloffgebebijaaGreat
