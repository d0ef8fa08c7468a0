/- BookI: as BookA, of the lists of ints and of events. -/
import Derived.Test.YthloffgebebijaaGreatBookA
import Derived.Test.YthloffgebebijaaGreatBytesA
namespace Go.Proofs.YthloffgebebijaaGreat
open Go.RowKit

theorem info_int : (Tryz.prog.info? 3).map (fun i => (i.zero, i.size, i.bytes)) = some (some (.int .i64 0), 1, 8) := by kernel_rfl
theorem info_event : (Tryz.prog.info? 149).map (fun i => (i.zero, i.size, i.bytes)) = some (some (.agg #[.int .i64 0, .int .i64 0, .int .i64 0, .int .i64 0, .int .i64 0]), 5, 40) := by kernel_rfl
def markI (m : Nat) : List Value := [.int .i64 (-1000 - (m : Int))]
def markE (m : Nat) : List Value := [.int .i64 (-1000 - (m : Int)), .int .i64 0, .int .i64 0, .int .i64 0, .int .i64 0]

set_option maxRecDepth 100000 in
set_option maxHeartbeats 400000 in
theorem allInts_true (v : Value) (n m : Nat) (w : World) (h : Even w 1 v n (markI m)) (hn : n ≤ 140737488355328) (hm : m ≤ 140737488355328) :
    Calls Tryz.prog 48 #[v, .int .i64 m] w fun e w' => e = .returned (.bool true) ∧ w = w' := by
  obtain ⟨a, cap, rfl, hv⟩ := h
  have HV := hide hv
  clear hv
  go_enter Tryz.func48, Tryz.ntmps48
  go_wp2
  go_loop [5] (fun i => ∃ k : Nat, i = .int .i64 k ∧ k ≤ n) (fun i => n - (intOf i).toNat)
  case atStart => exact ⟨0, rfl, Nat.zero_le _⟩
  case round =>
    obtain ⟨k, rfl, hk⟩ := hrel
    by_cases hlt : k < n
    · rcases HV.out with h0 | ⟨b, o, rfl, -, hc⟩
      · omega
      have d0 := hc k hlt 0 _ rfl
      simp only [Nat.mul_one, Nat.add_zero] at d0
      clear hc
      go_wp2
      go_round
      case rel => exact ⟨k + 1, by go_num, by omega⟩
      case measure => simp [intOf]; omega
    · go_wp2
      go_ret
      exact ⟨rfl, rfl⟩

set_option maxRecDepth 100000 in
set_option maxHeartbeats 400000 in
theorem allEvents_true (v : Value) (n m : Nat) (w : World) (h : Even w 5 v n (markE m)) (hn : n ≤ 140737488355328) (hm : m ≤ 140737488355328) :
    Calls Tryz.prog 49 #[v, .int .i64 m] w fun e w' => e = .returned (.bool true) ∧ w = w' := by
  obtain ⟨a, cap, rfl, hv⟩ := h
  have HV := hide hv
  clear hv
  go_enter Tryz.func49, Tryz.ntmps49
  go_wp2
  go_loop [5] (fun i => ∃ k : Nat, i = .int .i64 k ∧ k ≤ n) (fun i => n - (intOf i).toNat)
  case atStart => exact ⟨0, rfl, Nat.zero_le _⟩
  case round =>
    obtain ⟨k, rfl, hk⟩ := hrel
    by_cases hlt : k < n
    · rcases HV.out with h0 | ⟨b, o, rfl, -, hc⟩
      · omega
      have d0 := hc k hlt 0 _ rfl
      have d1 := hc k hlt 1 _ rfl
      have d2 := hc k hlt 2 _ rfl
      simp only [Nat.add_zero] at d0
      clear hc
      go_wp2
      go_round
      case rel => exact ⟨k + 1, by go_num, by omega⟩
      case measure => simp [intOf]; omega
    · go_wp2
      go_ret
      exact ⟨rfl, rfl⟩

/-- What an entry of the book holds: four lists, all of the mark. -/
def StillI (w : World) (v : Value) (m : Nat) : Prop :=
  ∃ l0 l1 l2 l3 n0 n1 n2 n3, v = .agg #[l0, l1, l2, l3, .int .i64 m] ∧ Even w 1 l0 n0 (markI m) ∧ Even w 1 l1 n1 (markI m) ∧ Even w 1 l2 n2 (markI m) ∧ Even w 1 l3 n3 (markI m) ∧ n0 ≤ 140737488355328 ∧ n1 ≤ 140737488355328 ∧ n2 ≤ 140737488355328 ∧ n3 ≤ 140737488355328
theorem StillI.later {w w' : World} {v : Value} {m : Nat} (h : StillI w v m) (hb : Below w.heap.size w w') : StillI w' v m := by
  obtain ⟨l0, l1, l2, l3, n0, n1, n2, n3, hv, e0, e1, e2, e3, r⟩ := h
  exact ⟨l0, l1, l2, l3, n0, n1, n2, n3, hv, e0.later hb, e1.later hb, e2.later hb, e3.later hb, r⟩
set_option maxRecDepth 100000 in
set_option maxHeartbeats 400000 in
theorem stillI_true (v : Value) (m : Nat) (w : World) (h : StillI w v m) (hm : m ≤ 140737488355328) :
    Calls Tryz.prog 18 #[v] w fun e w' => e = .returned (.bool true) ∧ Below w.heap.size w w' := by
  obtain ⟨l0, l1, l2, l3, n0, n1, n2, n3, rfl, e0, e1, e2, e3, b0, b1, b2, b3⟩ := h
  have hb : ∀ o, Below w.heap.size w (w.alloc o) := fun o => (Below.refl _ _).alloc (Nat.le_refl _) _
  have H0 := hide (fun o => allInts_true _ _ _ _ (e0.later (hb o)) b0 hm)
  have H1 := hide (fun o => allInts_true _ _ _ _ (e1.later (hb o)) b1 hm)
  have H2 := hide (fun o => allInts_true _ _ _ _ (e2.later (hb o)) b2 hm)
  have H3 := hide (fun o => allInts_true _ _ _ _ (e3.later (hb o)) b3 hm)
  obtain ⟨a0, c0, rfl⟩ := e0.slice
  obtain ⟨a1, c1, rfl⟩ := e1.slice
  obtain ⟨a2, c2, rfl⟩ := e2.slice
  obtain ⟨a3, c3, rfl⟩ := e3.slice
  have HB := hide hb
  clear e0 e1 e2 e3 hb
  go_enter Tryz.func18, Tryz.ntmps18
  go_wp2_with fail
  refine (H0.out _).mono ?_
  rintro e w' ⟨rfl, rfl⟩
  go_wp2_with fail
  refine (H1.out _).mono ?_
  rintro e w' ⟨rfl, rfl⟩
  go_wp2_with fail
  refine (H2.out _).mono ?_
  rintro e w' ⟨rfl, rfl⟩
  go_wp2_with fail
  refine (H3.out _).mono ?_
  rintro e w' ⟨rfl, rfl⟩
  go_wp2
  go_ret
  exact ⟨rfl, HB.out _⟩

/-- What an entry of the book holds: four lists, all of the mark. -/
def StillE (w : World) (v : Value) (m : Nat) : Prop :=
  ∃ l0 l1 l2 l3 n0 n1 n2 n3, v = .agg #[l0, l1, l2, l3, .int .i64 m] ∧ Even w 5 l0 n0 (markE m) ∧ Even w 5 l1 n1 (markE m) ∧ Even w 5 l2 n2 (markE m) ∧ Even w 5 l3 n3 (markE m) ∧ n0 ≤ 140737488355328 ∧ n1 ≤ 140737488355328 ∧ n2 ≤ 140737488355328 ∧ n3 ≤ 140737488355328
theorem StillE.later {w w' : World} {v : Value} {m : Nat} (h : StillE w v m) (hb : Below w.heap.size w w') : StillE w' v m := by
  obtain ⟨l0, l1, l2, l3, n0, n1, n2, n3, hv, e0, e1, e2, e3, r⟩ := h
  exact ⟨l0, l1, l2, l3, n0, n1, n2, n3, hv, e0.later hb, e1.later hb, e2.later hb, e3.later hb, r⟩
set_option maxRecDepth 100000 in
set_option maxHeartbeats 400000 in
theorem stillE_true (v : Value) (m : Nat) (w : World) (h : StillE w v m) (hm : m ≤ 140737488355328) :
    Calls Tryz.prog 19 #[v] w fun e w' => e = .returned (.bool true) ∧ Below w.heap.size w w' := by
  obtain ⟨l0, l1, l2, l3, n0, n1, n2, n3, rfl, e0, e1, e2, e3, b0, b1, b2, b3⟩ := h
  have hb : ∀ o, Below w.heap.size w (w.alloc o) := fun o => (Below.refl _ _).alloc (Nat.le_refl _) _
  have H0 := hide (fun o => allEvents_true _ _ _ _ (e0.later (hb o)) b0 hm)
  have H1 := hide (fun o => allEvents_true _ _ _ _ (e1.later (hb o)) b1 hm)
  have H2 := hide (fun o => allEvents_true _ _ _ _ (e2.later (hb o)) b2 hm)
  have H3 := hide (fun o => allEvents_true _ _ _ _ (e3.later (hb o)) b3 hm)
  obtain ⟨a0, c0, rfl⟩ := e0.slice
  obtain ⟨a1, c1, rfl⟩ := e1.slice
  obtain ⟨a2, c2, rfl⟩ := e2.slice
  obtain ⟨a3, c3, rfl⟩ := e3.slice
  have HB := hide hb
  clear e0 e1 e2 e3 hb
  go_enter Tryz.func19, Tryz.ntmps19
  go_wp2_with fail
  refine (H0.out _).mono ?_
  rintro e w' ⟨rfl, rfl⟩
  go_wp2_with fail
  refine (H1.out _).mono ?_
  rintro e w' ⟨rfl, rfl⟩
  go_wp2_with fail
  refine (H2.out _).mono ?_
  rintro e w' ⟨rfl, rfl⟩
  go_wp2_with fail
  refine (H3.out _).mono ?_
  rintro e w' ⟨rfl, rfl⟩
  go_wp2
  go_ret
  exact ⟨rfl, HB.out _⟩

end Go.Proofs.YthloffgebebijaaGreat
