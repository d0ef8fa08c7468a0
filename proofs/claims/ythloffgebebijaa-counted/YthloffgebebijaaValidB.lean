/- ValidB: the walks of package config's tests on a configuration: its tasks, and the whole. -/
import Derived.Test.YthloffgebebijaaValid
namespace Go.Proofs.Ythloffgebebijaa
open Go.RowKit

theorem all_drop {α : Type} {l r : List α} {k : Nat} {x : α} {p : α → Bool} (h : l.drop k = r) (hx : l[k]? = some x) (hp : p x = true) (ha : l.all p = r.all p) : l.all p = (l.drop (k + 1)).all p := by
  rw [ha, ← h, drop_cons hx]; simp [hp]

set_option maxHeartbeats 400000 in
theorem validTasks_any (v : Value) (B : Nat) (ts : List Tk) (w : World) (hv : Tasks w B v ts) (hB : B ≤ w.heap.size) :
    Calls Try.prog 33 #[v] w fun e w' => e = .returned (.bool (tasksOk ts)) ∧ Below w.heap.size w w' := by
  obtain ⟨a, cap, rfl, hv⟩ := hv
  generalize hn : ts.length = n at *
  have H : Hid (ts.length = n) := hn
  clear hn
  by_cases h1 : 1 ≤ n ∧ n ≤ 6
  · obtain ⟨h1, h2⟩ := h1
    rcases hv with hv | ⟨b, o, rfl, hlt, hc⟩
    · exfalso; have := H.out; rw [hv] at this; simp at this; omega
    have HC := hide hc
    clear hc
    go_enter Try.func33, Try.ntmps33
    go_wp2_with (go_at_call 32; refine (within_yes _ _ _ _ (by omega)).mono ?_; rintro e w' ⟨rfl, rfl⟩)
    go_loopw [11] (fun i wr => ∃ k rest, i = .int .i64 (k : Nat) ∧ ts.drop k = rest ∧ k ≤ n ∧ ts.all taskOk = rest.all taskOk ∧ Below w.heap.size w wr) (fun i _ => n - (intOf i).toNat)
    case atStart => exact ⟨0, _, rfl, rfl, Nat.zero_le _, rfl, Below.refl _ _⟩
    case round =>
      obtain ⟨k, rest, rfl, hd, hk, he, hbel⟩ := hrel
      have hsz := hbel.size
      have H1 := hide hd
      have H2 := hide he
      clear hd he
      by_cases hlt2 : k < n
      · obtain ⟨t, hl⟩ := get_of_lt (l := ts) (k := k) (by rw [H.out]; exact hlt2)
        obtain ⟨d0, d1, s, d2, hs⟩ := (HC.out k _ hl).later hbel hB (by omega)
        have HL := hide hl
        obtain ⟨sa, scap, rfl⟩ := hs.slice
        have HS := hide hs
        clear hl hs
        go_wp2_with fail
        refine (validTask_any _ B t _ ⟨_, rfl, HS.out.later ((Below.refl _ _).alloc (Nat.le_refl _) _) (by omega)⟩ (by simp; omega)).mono ?_
        rintro e w' ⟨rfl, hb⟩
        have hb' : Below w.heap.size w w' := (hbel.alloc hsz _).trans (hb.mono (by simp; omega))
        clear hb
        cases ht : taskOk t
        · go_wp2
          go_ret
          refine ⟨ret_bool ?_, hb'⟩
          rw [tasksOk, H2.out, ← H1.out, drop_cons HL.out]; simp [ht]
        · go_wp2
          go_roundw
          case rel => exact ⟨k + 1, _, by go_num, rfl, by omega, all_drop H1.out HL.out ht H2.out, hb'⟩
          case measure => simp [intOf]; omega
      · go_wp2
        go_ret
        refine ⟨ret_bool ?_, hbel⟩
        have e1 : rest = [] := by rw [← H1.out]; exact List.drop_eq_nil_of_le (by rw [H.out]; omega)
        rw [tasksOk, H2.out, e1, H.out]; simp; omega
  · go_enter Try.func33, Try.ntmps33
    go_wp2_with (go_at_call 32; refine (within_no _ _ _ _ (by omega)).mono ?_; rintro e w' ⟨rfl, rfl⟩)
    go_ret
    refine ⟨ret_bool ?_, Below.refl _ _⟩
    have : decide (1 ≤ n ∧ n ≤ 6) = false := by simpa using h1
    simp only [tasksOk, H.out, this]; simp

set_option maxHeartbeats 1000000 in
theorem valid_any (v : Value) (B : Nat) (c : Cfg) (w : World) (hv : Cf w B v c) (hB : B ≤ w.heap.size) :
    Calls Try.prog 20 #[v] w fun e w' => e = .returned (.bool (cfgOk c)) ∧ Below w.heap.size w w' := by
  obtain ⟨s, rfl, hs⟩ := hv
  obtain ⟨lines, room, poll, idle, sw, ts⟩ := c
  simp only at hs ⊢
  have hb0 : ∀ o, Below w.heap.size w (w.alloc o) := fun o => (Below.refl _ _).alloc (Nat.le_refl _) _
  by_cases h1 : 1 ≤ lines ∧ lines ≤ 4
  · by_cases h2 : 1 ≤ room ∧ room ≤ 40
    · by_cases h3 : 1 ≤ poll ∧ poll ≤ 20
      · by_cases h4 : 0 ≤ idle ∧ idle ≤ 20
        · by_cases h5 : 0 ≤ sw ∧ sw ≤ 20
          · go_enter Try.func20, Try.ntmps20
            go_wp2_with (go_at_call 32; refine (within_yes _ _ _ _ (by omega)).mono ?_; rintro e w' ⟨rfl, rfl⟩)
            refine (validTasks_any _ B ts _ (hs.later (hb0 _) hB) (by simp; omega)).mono ?_; rintro e w' ⟨rfl, hb⟩
            go_wp2
            go_ret
            refine ⟨ret_bool ?_, (hb0 _).trans (hb.mono (by simp))⟩
            simp only [cfgOk]; rw [decide_eq_true h1, decide_eq_true h2, decide_eq_true h3, decide_eq_true h4, decide_eq_true h5]; simp
          · go_enter Try.func20, Try.ntmps20
            go_wp2_with (first | (go_at_call 32; refine (within_yes _ _ _ _ (by omega)).mono ?_; rintro e w' ⟨rfl, rfl⟩) | (go_at_call 32; refine (within_no _ _ _ _ (by omega)).mono ?_; rintro e w' ⟨rfl, rfl⟩))
            go_ret
            refine ⟨ret_bool ?_, hb0 _⟩
            simp only [cfgOk]; rw [decide_eq_false h5]; simp
        · go_enter Try.func20, Try.ntmps20
          go_wp2_with (first | (go_at_call 32; refine (within_yes _ _ _ _ (by omega)).mono ?_; rintro e w' ⟨rfl, rfl⟩) | (go_at_call 32; refine (within_no _ _ _ _ (by omega)).mono ?_; rintro e w' ⟨rfl, rfl⟩))
          go_ret
          refine ⟨ret_bool ?_, hb0 _⟩
          simp only [cfgOk]; rw [decide_eq_false h4]; simp
      · go_enter Try.func20, Try.ntmps20
        go_wp2_with (first | (go_at_call 32; refine (within_yes _ _ _ _ (by omega)).mono ?_; rintro e w' ⟨rfl, rfl⟩) | (go_at_call 32; refine (within_no _ _ _ _ (by omega)).mono ?_; rintro e w' ⟨rfl, rfl⟩))
        go_ret
        refine ⟨ret_bool ?_, hb0 _⟩
        simp only [cfgOk]; rw [decide_eq_false h3]; simp
    · go_enter Try.func20, Try.ntmps20
      go_wp2_with (first | (go_at_call 32; refine (within_yes _ _ _ _ (by omega)).mono ?_; rintro e w' ⟨rfl, rfl⟩) | (go_at_call 32; refine (within_no _ _ _ _ (by omega)).mono ?_; rintro e w' ⟨rfl, rfl⟩))
      go_ret
      refine ⟨ret_bool ?_, hb0 _⟩
      simp only [cfgOk]; rw [decide_eq_false h2]; simp
  · go_enter Try.func20, Try.ntmps20
    go_wp2_with (first | (go_at_call 32; refine (within_yes _ _ _ _ (by omega)).mono ?_; rintro e w' ⟨rfl, rfl⟩) | (go_at_call 32; refine (within_no _ _ _ _ (by omega)).mono ?_; rintro e w' ⟨rfl, rfl⟩))
    go_ret
    refine ⟨ret_bool ?_, hb0 _⟩
    simp only [cfgOk]; rw [decide_eq_false h1]; simp

end Go.Proofs.Ythloffgebebijaa
