/- Valid: the walks of package config's tests on a configuration. -/
import Derived.Test.YthloffgebebijaaRows
import Derived.Test.YthloffgebebijaaData
namespace Go.Proofs.Ythloffgebebijaa
open Go.RowKit

theorem within_yes (a b c : Int) (w : World) (h : b ≤ a ∧ a ≤ c) :
    Calls Try.prog 32 #[.int .i64 a, .int .i64 b, .int .i64 c] w fun e w' => e = .returned (.bool true) ∧ w = w' := by
  obtain ⟨h1, h2⟩ := h
  go_enter Try.func32, Try.ntmps32
  go_wp2
  go_ret
  exact ⟨rfl, rfl⟩
theorem within_no (a b c : Int) (w : World) (h : ¬ (b ≤ a ∧ a ≤ c)) :
    Calls Try.prog 32 #[.int .i64 a, .int .i64 b, .int .i64 c] w fun e w' => e = .returned (.bool false) ∧ w = w' := by
  by_cases h1 : b ≤ a
  · have h2 : decide (a ≤ c) = false := by simp; omega
    clear h
    go_enter Try.func32, Try.ntmps32
    go_wp2
    go_ret
    exact ⟨rfl, rfl⟩
  · clear h
    have h2 : decide (b ≤ a) = false := by simpa using h1
    go_enter Try.func32, Try.ntmps32
    go_wp2
    go_ret
    exact ⟨rfl, rfl⟩

set_option maxHeartbeats 400000 in
theorem validLimits_any (v : Value) (B : Nat) (ls : List (Int × Int)) (w : World) (hv : Lims w B v ls) (hB : B ≤ w.heap.size) :
    Calls Try.prog 64 #[v] w fun e w' => e = .returned (.bool (limsOk ls)) ∧ Below w.heap.size w w' := by
  obtain ⟨a, cap, rfl, hv⟩ := hv
  generalize hn : ls.length = n at *
  have H : Hid (ls.length = n) := hn
  clear hn
  by_cases h1 : 1 ≤ n ∧ n ≤ 3
  · obtain ⟨h1, h2⟩ := h1
    rcases hv with hv | ⟨b, o, rfl, hlt, hc⟩
    · exfalso; have := H.out; rw [hv] at this; simp at this; omega
    have HC := hide hc
    clear hc
    go_enter Try.func64, Try.ntmps64
    go_wp2_with (go_at_call 32; refine (within_yes _ _ _ _ (by omega)).mono ?_; rintro e w' ⟨rfl, rfl⟩)
    go_loopw [12] (fun i wr => ∃ k a rest, i = .int .i64 (k : Nat) ∧ ls.drop k = rest ∧ k ≤ n ∧ Blk wr w.heap.size #[.int .i64 a.1, .int .i64 a.2] 74
       ∧ 0 ≤ a.1 ∧ a.1 ≤ 500 ∧ 0 ≤ a.2 ∧ a.2 ≤ 20 ∧ vl (0, 0) ls = vl a rest ∧ Below w.heap.size w wr) (fun i _ => n - (intOf i).toNat)
    case atStart => exact ⟨0, (0, 0), _, rfl, rfl, Nat.zero_le _, Blk.new _ _ _, by simp, by simp, by simp, by simp, rfl, (Below.refl _ _).alloc (Nat.le_refl _) _⟩
    case round =>
      obtain ⟨k, ⟨a1, a2⟩, rest, rfl, hd, hk, hB2, p0, p1, p2, p3, he, hbel⟩ := hrel
      simp only at hB2 p0 p1 p2 p3
      have hsz := hB2.lt
      have c0 : wr.cell? ⟨w.heap.size, 0, none⟩ = some (.int .i64 a1) := hB2.cell 0
      have c1 : wr.cell? ⟨w.heap.size, 1, none⟩ = some (.int .i64 a2) := hB2.cell 1
      have f0 := hB2.free 0
      have f1 := hB2.free 1
      have H1 := hide hd
      have H2 := hide he
      have HB := hide hB2
      clear hd he hB2
      by_cases hlt2 : k < n
      · obtain ⟨⟨l1, l2⟩, hl⟩ := get_of_lt (l := ls) (k := k) (by rw [H.out]; exact hlt2)
        obtain ⟨d0, d1⟩ := (HC.out k _ hl).later hbel (by omega)
        have HR := hide (H1.out.symm.trans (drop_cons hl))
        clear hl
        by_cases g1 : a1 + 1 ≤ l1 ∧ l1 ≤ 500
        · obtain ⟨g1, g1'⟩ := g1
          by_cases g2 : a2 + 1 ≤ l2 ∧ l2 ≤ 20
          · obtain ⟨g2, g2'⟩ := g2
            go_wp2_with (go_at_call 32; refine (within_yes _ _ _ _ (by omega)).mono ?_; rintro e w' ⟨rfl, rfl⟩)
            go_roundw
            case rel =>
              refine ⟨k + 1, (l1, l2), _, by go_num, rfl, by omega, ?_, by simp; omega, by simp; omega, by simp; omega, by simp; omega, ?_, ?_⟩
              · exact ((HB.out.set 0 _).set 1 _).alloc _
              · rw [H2.out, HR.out]; simp only [vl]; rw [decide_eq_true ⟨g1, g1'⟩, decide_eq_true ⟨g2, g2'⟩]; rfl
              · exact (((hbel.setCell (Nat.le_refl _) _).setCell (Nat.le_refl _) _).alloc (by simp; omega) _)
            case measure => simp [intOf]; omega
          · go_wp2_with (first | (go_at_call 32; refine (within_yes _ _ _ _ (by omega)).mono ?_; rintro e w' ⟨rfl, rfl⟩) | (go_at_call 32; refine (within_no _ _ _ _ (by omega)).mono ?_; rintro e w' ⟨rfl, rfl⟩))
            go_ret
            refine ⟨ret_bool ?_, ?_⟩
            · have : decide (a2 + 1 ≤ l2 ∧ l2 ≤ 20) = false := by simpa using g2
              simp only [limsOk, H2.out, HR.out, vl, this]; simp
            · exact hbel.alloc (by omega) _
        · go_wp2_with (go_at_call 32; refine (within_no _ _ _ _ (by omega)).mono ?_; rintro e w' ⟨rfl, rfl⟩)
          go_ret
          refine ⟨ret_bool ?_, ?_⟩
          · have : decide (a1 + 1 ≤ l1 ∧ l1 ≤ 500) = false := by simpa using g1
            simp only [limsOk, H2.out, HR.out, vl, this]; simp
          · exact hbel.alloc (by omega) _
      · go_wp2
        go_ret
        refine ⟨ret_bool ?_, hbel⟩
        have e1 : rest = [] := by rw [← H1.out]; exact List.drop_eq_nil_of_le (by rw [H.out]; omega)
        simp only [limsOk, H2.out, e1, vl, H.out]; simp; omega
  · go_enter Try.func64, Try.ntmps64
    go_wp2_with (go_at_call 32; refine (within_no _ _ _ _ (by omega)).mono ?_; rintro e w' ⟨rfl, rfl⟩)
    go_ret
    refine ⟨ret_bool ?_, Below.refl _ _⟩
    have : decide (1 ≤ n ∧ n ≤ 3) = false := by simpa using h1
    simp only [limsOk, H.out, this]; simp

set_option maxHeartbeats 400000 in
theorem validTask_any (v : Value) (B : Nat) (t : Tk) (w : World) (hv : Task1 w B v t) (hB : B ≤ w.heap.size) :
    Calls Try.prog 47 #[v] w fun e w' => e = .returned (.bool (taskOk t)) ∧ Below w.heap.size w w' := by
  obtain ⟨s, rfl, hs⟩ := hv
  obtain ⟨cost, due, ls⟩ := t
  simp only at hs ⊢
  by_cases h1 : 1 ≤ cost ∧ cost ≤ 50
  · by_cases h2 : 1 ≤ due ∧ due ≤ 400
    · go_enter Try.func47, Try.ntmps47
      go_wp2_with fail
      refine (within_yes _ _ _ _ (by omega)).mono ?_; rintro e w' ⟨rfl, rfl⟩
      go_wp2_with fail
      refine (within_yes _ _ _ _ (by omega)).mono ?_; rintro e w' ⟨rfl, rfl⟩
      go_wp2_with fail
      refine (validLimits_any _ B ls _ (hs.later ((Below.refl _ _).alloc (Nat.le_refl _) _) hB) (by simp; omega)).mono ?_; rintro e w' ⟨rfl, hb⟩
      go_wp2
      go_ret
      refine ⟨ret_bool ?_, ((Below.refl _ _).alloc (Nat.le_refl _) _).trans (hb.mono (by simp))⟩
      simp only [taskOk]; rw [decide_eq_true h1, decide_eq_true h2]; simp
    · go_enter Try.func47, Try.ntmps47
      go_wp2_with fail
      refine (within_yes _ _ _ _ (by omega)).mono ?_; rintro e w' ⟨rfl, rfl⟩
      go_wp2_with fail
      refine (within_no _ _ _ _ (by omega)).mono ?_; rintro e w' ⟨rfl, rfl⟩
      go_wp2
      go_ret
      refine ⟨ret_bool ?_, (Below.refl _ _).alloc (Nat.le_refl _) _⟩
      simp only [taskOk]; rw [decide_eq_false h2]; simp
  · go_enter Try.func47, Try.ntmps47
    go_wp2_with fail
    refine (within_no _ _ _ _ (by omega)).mono ?_; rintro e w' ⟨rfl, rfl⟩
    go_wp2
    go_ret
    refine ⟨ret_bool ?_, (Below.refl _ _).alloc (Nat.le_refl _) _⟩
    simp only [taskOk]; rw [decide_eq_false h1]; simp

end Go.Proofs.Ythloffgebebijaa
