/- Valid: the walks of package config's tests on a configuration. -/
import Derived.Test.YthloffgebebijaaGreatRows
import Derived.Test.YthloffgebebijaaGreatData
namespace Go.Proofs.YthloffgebebijaaGreat
open Go.RowKit

theorem within_yes (a b c : Int) (w : World) (h : b ≤ a ∧ a ≤ c) :
    Calls Tryz.prog 76 #[.int .i64 a, .int .i64 b, .int .i64 c] w fun e w' => e = .returned (.bool true) ∧ w = w' := by
  obtain ⟨h1, h2⟩ := h
  go_enter Tryz.func76, Tryz.ntmps76
  go_wp2
  go_ret
  exact ⟨rfl, rfl⟩
theorem within_no (a b c : Int) (w : World) (h : ¬ (b ≤ a ∧ a ≤ c)) :
    Calls Tryz.prog 76 #[.int .i64 a, .int .i64 b, .int .i64 c] w fun e w' => e = .returned (.bool false) ∧ w = w' := by
  by_cases h1 : b ≤ a
  · have h2 : decide (a ≤ c) = false := by simp; omega
    clear h
    go_enter Tryz.func76, Tryz.ntmps76
    go_wp2
    go_ret
    exact ⟨rfl, rfl⟩
  · clear h
    have h2 : decide (b ≤ a) = false := by simpa using h1
    go_enter Tryz.func76, Tryz.ntmps76
    go_wp2
    go_ret
    exact ⟨rfl, rfl⟩

set_option maxHeartbeats 400000 in
theorem validLimits_any (v : Value) (B : Nat) (ls : List (Int × Int)) (w : World) (hv : Lims w B v ls) (hB : B ≤ w.heap.size) :
    Calls Tryz.prog 113 #[v] w fun e w' => e = .returned (.bool (limsOk ls)) ∧ Below w.heap.size w w' := by
  obtain ⟨a, cap, rfl, hv⟩ := hv
  generalize hn : ls.length = n at *
  have H : Hid (ls.length = n) := hn
  clear hn
  by_cases h1 : 1 ≤ n ∧ n ≤ 3
  · obtain ⟨h1, h2⟩ := h1
    rcases hv with hv | ⟨b, o, rfl, hlt, hc⟩
    · exfalso; have := H.out; rw [hv] at this; simp at this; omega
    have HC := hide hc
    clear hc
    go_enter Tryz.func113, Tryz.ntmps113
    go_wp2_with (go_at_call 76; refine (within_yes _ _ _ _ (by omega)).mono ?_; rintro e w' ⟨rfl, rfl⟩)
    go_loopw [12] (fun i wr => ∃ k a rest, i = .int .i64 (k : Nat) ∧ ls.drop k = rest ∧ k ≤ n ∧ Blk wr w.heap.size #[.int .i64 a.1, .int .i64 a.2] 52
       ∧ 0 ≤ a.1 ∧ a.1 ≤ 500 ∧ 0 ≤ a.2 ∧ a.2 ≤ 20 ∧ vl (0, 0) ls = vl a rest ∧ Below w.heap.size w wr) (fun i _ => n - (intOf i).toNat)
    case atStart => exact ⟨0, (0, 0), _, rfl, rfl, Nat.zero_le _, Blk.new _ _ _, by simp, by simp, by simp, by simp, rfl, (Below.refl _ _).alloc (Nat.le_refl _) _⟩
    case round =>
      obtain ⟨k, ⟨a1, a2⟩, rest, rfl, hd, hk, hB2, p0, p1, p2, p3, he, hbel⟩ := hrel
      simp only at hB2 p0 p1 p2 p3
      have hsz := hB2.lt
      have c0 : wr.cell? ⟨w.heap.size, 0, none⟩ = some (.int .i64 a1) := hB2.cell 0
      have c1 : wr.cell? ⟨w.heap.size, 1, none⟩ = some (.int .i64 a2) := hB2.cell 1
      have f0 := hB2.free 0
      have f1 := hB2.free 1
      have H1 := hide hd
      have H2 := hide he
      have HB := hide hB2
      clear hd he hB2
      by_cases hlt2 : k < n
      · obtain ⟨⟨l1, l2⟩, hl⟩ := get_of_lt (l := ls) (k := k) (by rw [H.out]; exact hlt2)
        obtain ⟨d0, d1⟩ := (HC.out k _ hl).later hbel (by omega)
        have HR := hide (H1.out.symm.trans (drop_cons hl))
        clear hl
        by_cases g1 : a1 + 1 ≤ l1 ∧ l1 ≤ 500
        · obtain ⟨g1, g1'⟩ := g1
          by_cases g2 : a2 + 1 ≤ l2 ∧ l2 ≤ 20
          · obtain ⟨g2, g2'⟩ := g2
            go_wp2_with (go_at_call 76; refine (within_yes _ _ _ _ (by omega)).mono ?_; rintro e w' ⟨rfl, rfl⟩)
            go_roundw
            case rel =>
              refine ⟨k + 1, (l1, l2), _, by go_num, rfl, by omega, ?_, by simp; omega, by simp; omega, by simp; omega, by simp; omega, ?_, ?_⟩
              · exact ((HB.out.set 0 _).set 1 _).alloc _
              · rw [H2.out, HR.out]; simp only [vl]; rw [decide_eq_true ⟨g1, g1'⟩, decide_eq_true ⟨g2, g2'⟩]; rfl
              · exact (((hbel.setCell (Nat.le_refl _) _).setCell (Nat.le_refl _) _).alloc (by simp; omega) _)
            case measure => simp [intOf]; omega
          · go_wp2_with (first | (go_at_call 76; refine (within_yes _ _ _ _ (by omega)).mono ?_; rintro e w' ⟨rfl, rfl⟩) | (go_at_call 76; refine (within_no _ _ _ _ (by omega)).mono ?_; rintro e w' ⟨rfl, rfl⟩))
            go_ret
            refine ⟨ret_bool ?_, ?_⟩
            · have : decide (a2 + 1 ≤ l2 ∧ l2 ≤ 20) = false := by simpa using g2
              simp only [limsOk, H2.out, HR.out, vl, this]; simp
            · exact hbel.alloc (by omega) _
        · go_wp2_with (go_at_call 76; refine (within_no _ _ _ _ (by omega)).mono ?_; rintro e w' ⟨rfl, rfl⟩)
          go_ret
          refine ⟨ret_bool ?_, ?_⟩
          · have : decide (a1 + 1 ≤ l1 ∧ l1 ≤ 500) = false := by simpa using g1
            simp only [limsOk, H2.out, HR.out, vl, this]; simp
          · exact hbel.alloc (by omega) _
      · go_wp2
        go_ret
        refine ⟨ret_bool ?_, hbel⟩
        have e1 : rest = [] := by rw [← H1.out]; exact List.drop_eq_nil_of_le (by rw [H.out]; omega)
        simp only [limsOk, H2.out, e1, vl, H.out]; simp; omega
  · go_enter Tryz.func113, Tryz.ntmps113
    go_wp2_with (go_at_call 76; refine (within_no _ _ _ _ (by omega)).mono ?_; rintro e w' ⟨rfl, rfl⟩)
    go_ret
    refine ⟨ret_bool ?_, Below.refl _ _⟩
    have : decide (1 ≤ n ∧ n ≤ 3) = false := by simpa using h1
    simp only [limsOk, H.out, this]; simp

set_option maxHeartbeats 400000 in
theorem validTask_any (v : Value) (B : Nat) (t : Tk) (w : World) (hv : Task1 w B v t) (hB : B ≤ w.heap.size) :
    Calls Tryz.prog 94 #[v] w fun e w' => e = .returned (.bool (taskOk t)) ∧ Below w.heap.size w w' := by
  obtain ⟨s, rfl, hs⟩ := hv
  obtain ⟨cost, due, ls⟩ := t
  simp only at hs ⊢
  by_cases h1 : 1 ≤ cost ∧ cost ≤ 50
  · by_cases h2 : 1 ≤ due ∧ due ≤ 400
    · go_enter Tryz.func94, Tryz.ntmps94
      go_wp2_with fail
      refine (within_yes _ _ _ _ (by omega)).mono ?_; rintro e w' ⟨rfl, rfl⟩
      go_wp2_with fail
      refine (within_yes _ _ _ _ (by omega)).mono ?_; rintro e w' ⟨rfl, rfl⟩
      go_wp2_with fail
      refine (validLimits_any _ B ls _ (hs.later ((Below.refl _ _).alloc (Nat.le_refl _) _) hB) (by simp; omega)).mono ?_; rintro e w' ⟨rfl, hb⟩
      go_wp2
      go_ret
      refine ⟨ret_bool ?_, ((Below.refl _ _).alloc (Nat.le_refl _) _).trans (hb.mono (by simp))⟩
      simp only [taskOk]; rw [decide_eq_true h1, decide_eq_true h2]; simp
    · go_enter Tryz.func94, Tryz.ntmps94
      go_wp2_with fail
      refine (within_yes _ _ _ _ (by omega)).mono ?_; rintro e w' ⟨rfl, rfl⟩
      go_wp2_with fail
      refine (within_no _ _ _ _ (by omega)).mono ?_; rintro e w' ⟨rfl, rfl⟩
      go_wp2
      go_ret
      refine ⟨ret_bool ?_, (Below.refl _ _).alloc (Nat.le_refl _) _⟩
      simp only [taskOk]; rw [decide_eq_false h2]; simp
  · go_enter Tryz.func94, Tryz.ntmps94
    go_wp2_with fail
    refine (within_no _ _ _ _ (by omega)).mono ?_; rintro e w' ⟨rfl, rfl⟩
    go_wp2
    go_ret
    refine ⟨ret_bool ?_, (Below.refl _ _).alloc (Nat.le_refl _) _⟩
    simp only [taskOk]; rw [decide_eq_false h1]; simp

end Go.Proofs.YthloffgebebijaaGreat

/- ValidB: the walks of package config's tests on a configuration: its tasks, and the whole. -/
namespace Go.Proofs.YthloffgebebijaaGreat
open Go.RowKit

theorem all_drop {α : Type} {l r : List α} {k : Nat} {x : α} {p : α → Bool} (h : l.drop k = r) (hx : l[k]? = some x) (hp : p x = true) (ha : l.all p = r.all p) : l.all p = (l.drop (k + 1)).all p := by
  rw [ha, ← h, drop_cons hx]; simp [hp]

set_option maxHeartbeats 400000 in
theorem validTasks_any (v : Value) (B : Nat) (ts : List Tk) (w : World) (hv : Tasks w B v ts) (hB : B ≤ w.heap.size) :
    Calls Tryz.prog 77 #[v] w fun e w' => e = .returned (.bool (tasksOk ts)) ∧ Below w.heap.size w w' := by
  obtain ⟨a, cap, rfl, hv⟩ := hv
  generalize hn : ts.length = n at *
  have H : Hid (ts.length = n) := hn
  clear hn
  by_cases h1 : 1 ≤ n ∧ n ≤ 6
  · obtain ⟨h1, h2⟩ := h1
    rcases hv with hv | ⟨b, o, rfl, hlt, hc⟩
    · exfalso; have := H.out; rw [hv] at this; simp at this; omega
    have HC := hide hc
    clear hc
    go_enter Tryz.func77, Tryz.ntmps77
    go_wp2_with (go_at_call 76; refine (within_yes _ _ _ _ (by omega)).mono ?_; rintro e w' ⟨rfl, rfl⟩)
    go_loopw [11] (fun i wr => ∃ k rest, i = .int .i64 (k : Nat) ∧ ts.drop k = rest ∧ k ≤ n ∧ ts.all taskOk = rest.all taskOk ∧ Below w.heap.size w wr) (fun i _ => n - (intOf i).toNat)
    case atStart => exact ⟨0, _, rfl, rfl, Nat.zero_le _, rfl, Below.refl _ _⟩
    case round =>
      obtain ⟨k, rest, rfl, hd, hk, he, hbel⟩ := hrel
      have hsz := hbel.size
      have H1 := hide hd
      have H2 := hide he
      clear hd he
      by_cases hlt2 : k < n
      · obtain ⟨t, hl⟩ := get_of_lt (l := ts) (k := k) (by rw [H.out]; exact hlt2)
        obtain ⟨d0, d1, s, d2, hs⟩ := (HC.out k _ hl).later hbel hB (by omega)
        have HL := hide hl
        obtain ⟨sa, scap, rfl⟩ := hs.slice
        have HS := hide hs
        clear hl hs
        go_wp2_with fail
        refine (validTask_any _ B t _ ⟨_, rfl, HS.out.later ((Below.refl _ _).alloc (Nat.le_refl _) _) (by omega)⟩ (by simp; omega)).mono ?_
        rintro e w' ⟨rfl, hb⟩
        have hb' : Below w.heap.size w w' := (hbel.alloc hsz _).trans (hb.mono (by simp; omega))
        clear hb
        cases ht : taskOk t
        · go_wp2
          go_ret
          refine ⟨ret_bool ?_, hb'⟩
          rw [tasksOk, H2.out, ← H1.out, drop_cons HL.out]; simp [ht]
        · go_wp2
          go_roundw
          case rel => exact ⟨k + 1, _, by go_num, rfl, by omega, all_drop H1.out HL.out ht H2.out, hb'⟩
          case measure => simp [intOf]; omega
      · go_wp2
        go_ret
        refine ⟨ret_bool ?_, hbel⟩
        have e1 : rest = [] := by rw [← H1.out]; exact List.drop_eq_nil_of_le (by rw [H.out]; omega)
        rw [tasksOk, H2.out, e1, H.out]; simp; omega
  · go_enter Tryz.func77, Tryz.ntmps77
    go_wp2_with (go_at_call 76; refine (within_no _ _ _ _ (by omega)).mono ?_; rintro e w' ⟨rfl, rfl⟩)
    go_ret
    refine ⟨ret_bool ?_, Below.refl _ _⟩
    have : decide (1 ≤ n ∧ n ≤ 6) = false := by simpa using h1
    simp only [tasksOk, H.out, this]; simp

set_option maxHeartbeats 1000000 in
theorem valid_any (v : Value) (B : Nat) (c : Cfg) (w : World) (hv : Cf w B v c) (hB : B ≤ w.heap.size) :
    Calls Tryz.prog 52 #[v] w fun e w' => e = .returned (.bool (cfgOk c)) ∧ Below w.heap.size w w' := by
  obtain ⟨s, rfl, hs⟩ := hv
  obtain ⟨lines, room, poll, idle, sw, ts⟩ := c
  simp only at hs ⊢
  have hb0 : ∀ o, Below w.heap.size w (w.alloc o) := fun o => (Below.refl _ _).alloc (Nat.le_refl _) _
  by_cases h1 : 1 ≤ lines ∧ lines ≤ 4
  · by_cases h2 : 1 ≤ room ∧ room ≤ 40
    · by_cases h3 : 1 ≤ poll ∧ poll ≤ 20
      · by_cases h4 : 0 ≤ idle ∧ idle ≤ 20
        · by_cases h5 : 0 ≤ sw ∧ sw ≤ 20
          · go_enter Tryz.func52, Tryz.ntmps52
            go_wp2_with (go_at_call 76; refine (within_yes _ _ _ _ (by omega)).mono ?_; rintro e w' ⟨rfl, rfl⟩)
            refine (validTasks_any _ B ts _ (hs.later (hb0 _) hB) (by simp; omega)).mono ?_; rintro e w' ⟨rfl, hb⟩
            go_wp2
            go_ret
            refine ⟨ret_bool ?_, (hb0 _).trans (hb.mono (by simp))⟩
            simp only [cfgOk]; rw [decide_eq_true h1, decide_eq_true h2, decide_eq_true h3, decide_eq_true h4, decide_eq_true h5]; simp
          · go_enter Tryz.func52, Tryz.ntmps52
            go_wp2_with (first | (go_at_call 76; refine (within_yes _ _ _ _ (by omega)).mono ?_; rintro e w' ⟨rfl, rfl⟩) | (go_at_call 76; refine (within_no _ _ _ _ (by omega)).mono ?_; rintro e w' ⟨rfl, rfl⟩))
            go_ret
            refine ⟨ret_bool ?_, hb0 _⟩
            simp only [cfgOk]; rw [decide_eq_false h5]; simp
        · go_enter Tryz.func52, Tryz.ntmps52
          go_wp2_with (first | (go_at_call 76; refine (within_yes _ _ _ _ (by omega)).mono ?_; rintro e w' ⟨rfl, rfl⟩) | (go_at_call 76; refine (within_no _ _ _ _ (by omega)).mono ?_; rintro e w' ⟨rfl, rfl⟩))
          go_ret
          refine ⟨ret_bool ?_, hb0 _⟩
          simp only [cfgOk]; rw [decide_eq_false h4]; simp
      · go_enter Tryz.func52, Tryz.ntmps52
        go_wp2_with (first | (go_at_call 76; refine (within_yes _ _ _ _ (by omega)).mono ?_; rintro e w' ⟨rfl, rfl⟩) | (go_at_call 76; refine (within_no _ _ _ _ (by omega)).mono ?_; rintro e w' ⟨rfl, rfl⟩))
        go_ret
        refine ⟨ret_bool ?_, hb0 _⟩
        simp only [cfgOk]; rw [decide_eq_false h3]; simp
    · go_enter Tryz.func52, Tryz.ntmps52
      go_wp2_with (first | (go_at_call 76; refine (within_yes _ _ _ _ (by omega)).mono ?_; rintro e w' ⟨rfl, rfl⟩) | (go_at_call 76; refine (within_no _ _ _ _ (by omega)).mono ?_; rintro e w' ⟨rfl, rfl⟩))
      go_ret
      refine ⟨ret_bool ?_, hb0 _⟩
      simp only [cfgOk]; rw [decide_eq_false h2]; simp
  · go_enter Tryz.func52, Tryz.ntmps52
    go_wp2_with (first | (go_at_call 76; refine (within_yes _ _ _ _ (by omega)).mono ?_; rintro e w' ⟨rfl, rfl⟩) | (go_at_call 76; refine (within_no _ _ _ _ (by omega)).mono ?_; rintro e w' ⟨rfl, rfl⟩))
    go_ret
    refine ⟨ret_bool ?_, hb0 _⟩
    simp only [cfgOk]; rw [decide_eq_false h1]; simp

end Go.Proofs.YthloffgebebijaaGreat
