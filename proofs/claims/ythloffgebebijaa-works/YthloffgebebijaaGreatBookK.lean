/- BookA: the walks of tillerlaw's all.. and still: each list of the book bears its mark. -/
import Derived.Test.YthloffgebebijaaGreatRows
import Derived.Test.YthloffgebebijaaGreatBase
import Derived.Test.YthloffgebebijaaGreatMark
import Derived.Test.YthloffgebebijaaGreatLists
import Derived.Test.YthloffgebebijaaGreatBytesA
import Derived.Test.YthloffgebebijaaGreatFram
namespace Go.Proofs.YthloffgebebijaaGreat
open Go.RowKit

/-- The value v reads as n elements of 'size' cells, each of which holds cs. -/
def Even (w : World) (size : Nat) (v : Value) (n : Nat) (cs : List Value) : Prop :=
  ∃ a cap, v = .slice a n cap ∧ (n = 0 ∨ ∃ b o, a = some ⟨b, o, none⟩ ∧ b < w.heap.size ∧ ∀ i, i < n → ∀ (j : Nat) (u : Value), cs[j]? = some u → w.cell? ⟨b, o + i * size + j, none⟩ = some u)

theorem Even.later {w w' : World} {size n : Nat} {v : Value} {cs : List Value} (h : Even w size v n cs) (hb : Below w.heap.size w w') : Even w' size v n cs := by
  obtain ⟨a, cap, hv, h⟩ := h
  refine ⟨a, cap, hv, h.imp id ?_⟩
  rintro ⟨b, o, ha, hlt, hc⟩
  exact ⟨b, o, ha, Nat.lt_of_lt_of_le hlt hb.size, fun i hi j u hj => (hb.cell (p := ⟨b, _, none⟩) hlt).trans (hc i hi j u hj)⟩
theorem Even.slice {w : World} {size n : Nat} {v : Value} {cs : List Value} (h : Even w size v n cs) : ∃ a cap, v = .slice a n cap := by
  obtain ⟨a, cap, hv, _⟩ := h
  exact ⟨a, cap, hv⟩

theorem Mk.even {w : World} {e : TypeId} {size n : Nat} {cs : List Value} {v : Value} (h : Mk w e size cs v n) (hcs : cs.length = size) : Even w size v n cs := by
  rcases h.cells_at hcs with h0 | ⟨b, cap, rfl, hb, hc⟩
  · obtain ⟨a, cap, rfl⟩ := h.slice
    exact ⟨a, cap, rfl, .inl h0⟩
  · exact ⟨_, cap, rfl, .inr ⟨b, 0, rfl, hb, hc⟩⟩

def markB (m : Nat) : List Value := [.int .u8 ((m : Int) % 251)]
def markL (m : Nat) : List Value := [.int .i64 (-1000 - (m : Int)), .int .i64 0]
def markT (m : Nat) : List Value := [.int .i64 (-1000 - (m : Int)), .int .i64 0, .slice none 0 0]

set_option maxRecDepth 100000 in
set_option maxHeartbeats 400000 in
theorem allBytes_true (v : Value) (n m : Nat) (w : World) (h : Even w 1 v n (markB m)) (hn : n ≤ 140737488355328) (hm : m ≤ 140737488355328) :
    Calls Tryz.prog 47 #[v, .int .i64 m] w fun e w' => e = .returned (.bool true) ∧ w = w' := by
  obtain ⟨a, cap, rfl, hv⟩ := h
  have HV := hide hv
  clear hv
  go_enter Tryz.func47, Tryz.ntmps47
  go_wp2
  go_loop [5] (fun i => ∃ k : Nat, i = .int .i64 k ∧ k ≤ n) (fun i => n - (intOf i).toNat)
  case atStart => exact ⟨0, rfl, Nat.zero_le _⟩
  case round =>
    obtain ⟨k, rfl, hk⟩ := hrel
    by_cases hlt : k < n
    · rcases HV.out with h0 | ⟨b, o, rfl, -, hc⟩
      · omega
      have d0 := hc k hlt 0 _ rfl
      simp only [Nat.mul_one, Nat.add_zero] at d0
      clear hc
      go_wp2
      go_round
      case rel => exact ⟨k + 1, by go_num, by omega⟩
      case measure => simp [intOf]; omega
    · go_wp2
      go_ret
      exact ⟨rfl, rfl⟩

set_option maxRecDepth 100000 in
set_option maxHeartbeats 400000 in
theorem allLimits_true (v : Value) (n m : Nat) (w : World) (h : Even w 2 v n (markL m)) (hn : n ≤ 140737488355328) (hm : m ≤ 140737488355328) :
    Calls Tryz.prog 50 #[v, .int .i64 m] w fun e w' => e = .returned (.bool true) ∧ w = w' := by
  obtain ⟨a, cap, rfl, hv⟩ := h
  have HV := hide hv
  clear hv
  go_enter Tryz.func50, Tryz.ntmps50
  go_wp2
  go_loop [5] (fun i => ∃ k : Nat, i = .int .i64 k ∧ k ≤ n) (fun i => n - (intOf i).toNat)
  case atStart => exact ⟨0, rfl, Nat.zero_le _⟩
  case round =>
    obtain ⟨k, rfl, hk⟩ := hrel
    by_cases hlt : k < n
    · rcases HV.out with h0 | ⟨b, o, rfl, -, hc⟩
      · omega
      have d0 := hc k hlt 0 _ rfl
      have d1 := hc k hlt 1 _ rfl
      simp only [Nat.add_zero] at d0
      clear hc
      go_wp2
      go_round
      case rel => exact ⟨k + 1, by go_num, by omega⟩
      case measure => simp [intOf]; omega
    · go_wp2
      go_ret
      exact ⟨rfl, rfl⟩

set_option maxRecDepth 100000 in
set_option maxHeartbeats 400000 in
theorem allTasks_true (v : Value) (n m : Nat) (w : World) (h : Even w 3 v n (markT m)) (hn : n ≤ 140737488355328) (hm : m ≤ 140737488355328) :
    Calls Tryz.prog 51 #[v, .int .i64 m] w fun e w' => e = .returned (.bool true) ∧ w = w' := by
  obtain ⟨a, cap, rfl, hv⟩ := h
  have HV := hide hv
  clear hv
  go_enter Tryz.func51, Tryz.ntmps51
  go_wp2
  go_loop [5] (fun i => ∃ k : Nat, i = .int .i64 k ∧ k ≤ n) (fun i => n - (intOf i).toNat)
  case atStart => exact ⟨0, rfl, Nat.zero_le _⟩
  case round =>
    obtain ⟨k, rfl, hk⟩ := hrel
    by_cases hlt : k < n
    · rcases HV.out with h0 | ⟨b, o, rfl, -, hc⟩
      · omega
      have d0 := hc k hlt 0 _ rfl
      have d2 := hc k hlt 2 _ rfl
      simp only [Nat.add_zero] at d0
      clear hc
      go_wp2
      go_round
      case rel => exact ⟨k + 1, by go_num, by omega⟩
      case measure => simp [intOf]; omega
    · go_wp2
      go_ret
      exact ⟨rfl, rfl⟩

/-- What an entry of the book holds: four lists, all of the mark. -/
def StillB (w : World) (v : Value) (m : Nat) : Prop :=
  ∃ l0 l1 l2 l3 n0 n1 n2 n3, v = .agg #[l0, l1, l2, l3, .int .i64 m] ∧ Even w 1 l0 n0 (markB m) ∧ Even w 1 l1 n1 (markB m) ∧ Even w 1 l2 n2 (markB m) ∧ Even w 1 l3 n3 (markB m) ∧ n0 ≤ 140737488355328 ∧ n1 ≤ 140737488355328 ∧ n2 ≤ 140737488355328 ∧ n3 ≤ 140737488355328
theorem StillB.later {w w' : World} {v : Value} {m : Nat} (h : StillB w v m) (hb : Below w.heap.size w w') : StillB w' v m := by
  obtain ⟨l0, l1, l2, l3, n0, n1, n2, n3, hv, e0, e1, e2, e3, r⟩ := h
  exact ⟨l0, l1, l2, l3, n0, n1, n2, n3, hv, e0.later hb, e1.later hb, e2.later hb, e3.later hb, r⟩
set_option maxRecDepth 100000 in
set_option maxHeartbeats 400000 in
theorem stillB_true (v : Value) (m : Nat) (w : World) (h : StillB w v m) (hm : m ≤ 140737488355328) :
    Calls Tryz.prog 17 #[v] w fun e w' => e = .returned (.bool true) ∧ Below w.heap.size w w' := by
  obtain ⟨l0, l1, l2, l3, n0, n1, n2, n3, rfl, e0, e1, e2, e3, b0, b1, b2, b3⟩ := h
  have hb : ∀ o, Below w.heap.size w (w.alloc o) := fun o => (Below.refl _ _).alloc (Nat.le_refl _) _
  have H0 := hide (fun o => allBytes_true _ _ _ _ (e0.later (hb o)) b0 hm)
  have H1 := hide (fun o => allBytes_true _ _ _ _ (e1.later (hb o)) b1 hm)
  have H2 := hide (fun o => allBytes_true _ _ _ _ (e2.later (hb o)) b2 hm)
  have H3 := hide (fun o => allBytes_true _ _ _ _ (e3.later (hb o)) b3 hm)
  obtain ⟨a0, c0, rfl⟩ := e0.slice
  obtain ⟨a1, c1, rfl⟩ := e1.slice
  obtain ⟨a2, c2, rfl⟩ := e2.slice
  obtain ⟨a3, c3, rfl⟩ := e3.slice
  have HB := hide hb
  clear e0 e1 e2 e3 hb
  go_enter Tryz.func17, Tryz.ntmps17
  go_wp2_with fail
  refine (H0.out _).mono ?_
  rintro e w' ⟨rfl, rfl⟩
  go_wp2_with fail
  refine (H1.out _).mono ?_
  rintro e w' ⟨rfl, rfl⟩
  go_wp2_with fail
  refine (H2.out _).mono ?_
  rintro e w' ⟨rfl, rfl⟩
  go_wp2_with fail
  refine (H3.out _).mono ?_
  rintro e w' ⟨rfl, rfl⟩
  go_wp2
  go_ret
  exact ⟨rfl, HB.out _⟩

/-- What an entry of the book holds: four lists, all of the mark. -/
def StillL (w : World) (v : Value) (m : Nat) : Prop :=
  ∃ l0 l1 l2 l3 n0 n1 n2 n3, v = .agg #[l0, l1, l2, l3, .int .i64 m] ∧ Even w 2 l0 n0 (markL m) ∧ Even w 2 l1 n1 (markL m) ∧ Even w 2 l2 n2 (markL m) ∧ Even w 2 l3 n3 (markL m) ∧ n0 ≤ 140737488355328 ∧ n1 ≤ 140737488355328 ∧ n2 ≤ 140737488355328 ∧ n3 ≤ 140737488355328
theorem StillL.later {w w' : World} {v : Value} {m : Nat} (h : StillL w v m) (hb : Below w.heap.size w w') : StillL w' v m := by
  obtain ⟨l0, l1, l2, l3, n0, n1, n2, n3, hv, e0, e1, e2, e3, r⟩ := h
  exact ⟨l0, l1, l2, l3, n0, n1, n2, n3, hv, e0.later hb, e1.later hb, e2.later hb, e3.later hb, r⟩
set_option maxRecDepth 100000 in
set_option maxHeartbeats 400000 in
theorem stillL_true (v : Value) (m : Nat) (w : World) (h : StillL w v m) (hm : m ≤ 140737488355328) :
    Calls Tryz.prog 20 #[v] w fun e w' => e = .returned (.bool true) ∧ Below w.heap.size w w' := by
  obtain ⟨l0, l1, l2, l3, n0, n1, n2, n3, rfl, e0, e1, e2, e3, b0, b1, b2, b3⟩ := h
  have hb : ∀ o, Below w.heap.size w (w.alloc o) := fun o => (Below.refl _ _).alloc (Nat.le_refl _) _
  have H0 := hide (fun o => allLimits_true _ _ _ _ (e0.later (hb o)) b0 hm)
  have H1 := hide (fun o => allLimits_true _ _ _ _ (e1.later (hb o)) b1 hm)
  have H2 := hide (fun o => allLimits_true _ _ _ _ (e2.later (hb o)) b2 hm)
  have H3 := hide (fun o => allLimits_true _ _ _ _ (e3.later (hb o)) b3 hm)
  obtain ⟨a0, c0, rfl⟩ := e0.slice
  obtain ⟨a1, c1, rfl⟩ := e1.slice
  obtain ⟨a2, c2, rfl⟩ := e2.slice
  obtain ⟨a3, c3, rfl⟩ := e3.slice
  have HB := hide hb
  clear e0 e1 e2 e3 hb
  go_enter Tryz.func20, Tryz.ntmps20
  go_wp2_with fail
  refine (H0.out _).mono ?_
  rintro e w' ⟨rfl, rfl⟩
  go_wp2_with fail
  refine (H1.out _).mono ?_
  rintro e w' ⟨rfl, rfl⟩
  go_wp2_with fail
  refine (H2.out _).mono ?_
  rintro e w' ⟨rfl, rfl⟩
  go_wp2_with fail
  refine (H3.out _).mono ?_
  rintro e w' ⟨rfl, rfl⟩
  go_wp2
  go_ret
  exact ⟨rfl, HB.out _⟩

/-- What an entry of the book holds: four lists, all of the mark. -/
def StillT (w : World) (v : Value) (m : Nat) : Prop :=
  ∃ l0 l1 l2 l3 n0 n1 n2 n3, v = .agg #[l0, l1, l2, l3, .int .i64 m] ∧ Even w 3 l0 n0 (markT m) ∧ Even w 3 l1 n1 (markT m) ∧ Even w 3 l2 n2 (markT m) ∧ Even w 3 l3 n3 (markT m) ∧ n0 ≤ 140737488355328 ∧ n1 ≤ 140737488355328 ∧ n2 ≤ 140737488355328 ∧ n3 ≤ 140737488355328
theorem StillT.later {w w' : World} {v : Value} {m : Nat} (h : StillT w v m) (hb : Below w.heap.size w w') : StillT w' v m := by
  obtain ⟨l0, l1, l2, l3, n0, n1, n2, n3, hv, e0, e1, e2, e3, r⟩ := h
  exact ⟨l0, l1, l2, l3, n0, n1, n2, n3, hv, e0.later hb, e1.later hb, e2.later hb, e3.later hb, r⟩
set_option maxRecDepth 100000 in
set_option maxHeartbeats 400000 in
theorem stillT_true (v : Value) (m : Nat) (w : World) (h : StillT w v m) (hm : m ≤ 140737488355328) :
    Calls Tryz.prog 21 #[v] w fun e w' => e = .returned (.bool true) ∧ Below w.heap.size w w' := by
  obtain ⟨l0, l1, l2, l3, n0, n1, n2, n3, rfl, e0, e1, e2, e3, b0, b1, b2, b3⟩ := h
  have hb : ∀ o, Below w.heap.size w (w.alloc o) := fun o => (Below.refl _ _).alloc (Nat.le_refl _) _
  have H0 := hide (fun o => allTasks_true _ _ _ _ (e0.later (hb o)) b0 hm)
  have H1 := hide (fun o => allTasks_true _ _ _ _ (e1.later (hb o)) b1 hm)
  have H2 := hide (fun o => allTasks_true _ _ _ _ (e2.later (hb o)) b2 hm)
  have H3 := hide (fun o => allTasks_true _ _ _ _ (e3.later (hb o)) b3 hm)
  obtain ⟨a0, c0, rfl⟩ := e0.slice
  obtain ⟨a1, c1, rfl⟩ := e1.slice
  obtain ⟨a2, c2, rfl⟩ := e2.slice
  obtain ⟨a3, c3, rfl⟩ := e3.slice
  have HB := hide hb
  clear e0 e1 e2 e3 hb
  go_enter Tryz.func21, Tryz.ntmps21
  go_wp2_with fail
  refine (H0.out _).mono ?_
  rintro e w' ⟨rfl, rfl⟩
  go_wp2_with fail
  refine (H1.out _).mono ?_
  rintro e w' ⟨rfl, rfl⟩
  go_wp2_with fail
  refine (H2.out _).mono ?_
  rintro e w' ⟨rfl, rfl⟩
  go_wp2_with fail
  refine (H3.out _).mono ?_
  rintro e w' ⟨rfl, rfl⟩
  go_wp2
  go_ret
  exact ⟨rfl, HB.out _⟩

end Go.Proofs.YthloffgebebijaaGreat

/- BookI: as BookA, of the lists of ints and of events. -/
namespace Go.Proofs.YthloffgebebijaaGreat
open Go.RowKit

theorem info_event : (Tryz.prog.info? 149).map (fun i => (i.zero, i.size, i.bytes)) = some (some (.agg #[.int .i64 0, .int .i64 0, .int .i64 0, .int .i64 0, .int .i64 0]), 5, 40) := by kernel_rfl
def markI (m : Nat) : List Value := [.int .i64 (-1000 - (m : Int))]
def markE (m : Nat) : List Value := [.int .i64 (-1000 - (m : Int)), .int .i64 0, .int .i64 0, .int .i64 0, .int .i64 0]

set_option maxRecDepth 100000 in
set_option maxHeartbeats 400000 in
theorem allInts_true (v : Value) (n m : Nat) (w : World) (h : Even w 1 v n (markI m)) (hn : n ≤ 140737488355328) (hm : m ≤ 140737488355328) :
    Calls Tryz.prog 48 #[v, .int .i64 m] w fun e w' => e = .returned (.bool true) ∧ w = w' := by
  obtain ⟨a, cap, rfl, hv⟩ := h
  have HV := hide hv
  clear hv
  go_enter Tryz.func48, Tryz.ntmps48
  go_wp2
  go_loop [5] (fun i => ∃ k : Nat, i = .int .i64 k ∧ k ≤ n) (fun i => n - (intOf i).toNat)
  case atStart => exact ⟨0, rfl, Nat.zero_le _⟩
  case round =>
    obtain ⟨k, rfl, hk⟩ := hrel
    by_cases hlt : k < n
    · rcases HV.out with h0 | ⟨b, o, rfl, -, hc⟩
      · omega
      have d0 := hc k hlt 0 _ rfl
      simp only [Nat.mul_one, Nat.add_zero] at d0
      clear hc
      go_wp2
      go_round
      case rel => exact ⟨k + 1, by go_num, by omega⟩
      case measure => simp [intOf]; omega
    · go_wp2
      go_ret
      exact ⟨rfl, rfl⟩

set_option maxRecDepth 100000 in
set_option maxHeartbeats 400000 in
theorem allEvents_true (v : Value) (n m : Nat) (w : World) (h : Even w 5 v n (markE m)) (hn : n ≤ 140737488355328) (hm : m ≤ 140737488355328) :
    Calls Tryz.prog 49 #[v, .int .i64 m] w fun e w' => e = .returned (.bool true) ∧ w = w' := by
  obtain ⟨a, cap, rfl, hv⟩ := h
  have HV := hide hv
  clear hv
  go_enter Tryz.func49, Tryz.ntmps49
  go_wp2
  go_loop [5] (fun i => ∃ k : Nat, i = .int .i64 k ∧ k ≤ n) (fun i => n - (intOf i).toNat)
  case atStart => exact ⟨0, rfl, Nat.zero_le _⟩
  case round =>
    obtain ⟨k, rfl, hk⟩ := hrel
    by_cases hlt : k < n
    · rcases HV.out with h0 | ⟨b, o, rfl, -, hc⟩
      · omega
      have d0 := hc k hlt 0 _ rfl
      have d1 := hc k hlt 1 _ rfl
      have d2 := hc k hlt 2 _ rfl
      simp only [Nat.add_zero] at d0
      clear hc
      go_wp2
      go_round
      case rel => exact ⟨k + 1, by go_num, by omega⟩
      case measure => simp [intOf]; omega
    · go_wp2
      go_ret
      exact ⟨rfl, rfl⟩

/-- What an entry of the book holds: four lists, all of the mark. -/
def StillI (w : World) (v : Value) (m : Nat) : Prop :=
  ∃ l0 l1 l2 l3 n0 n1 n2 n3, v = .agg #[l0, l1, l2, l3, .int .i64 m] ∧ Even w 1 l0 n0 (markI m) ∧ Even w 1 l1 n1 (markI m) ∧ Even w 1 l2 n2 (markI m) ∧ Even w 1 l3 n3 (markI m) ∧ n0 ≤ 140737488355328 ∧ n1 ≤ 140737488355328 ∧ n2 ≤ 140737488355328 ∧ n3 ≤ 140737488355328
theorem StillI.later {w w' : World} {v : Value} {m : Nat} (h : StillI w v m) (hb : Below w.heap.size w w') : StillI w' v m := by
  obtain ⟨l0, l1, l2, l3, n0, n1, n2, n3, hv, e0, e1, e2, e3, r⟩ := h
  exact ⟨l0, l1, l2, l3, n0, n1, n2, n3, hv, e0.later hb, e1.later hb, e2.later hb, e3.later hb, r⟩
set_option maxRecDepth 100000 in
set_option maxHeartbeats 400000 in
theorem stillI_true (v : Value) (m : Nat) (w : World) (h : StillI w v m) (hm : m ≤ 140737488355328) :
    Calls Tryz.prog 18 #[v] w fun e w' => e = .returned (.bool true) ∧ Below w.heap.size w w' := by
  obtain ⟨l0, l1, l2, l3, n0, n1, n2, n3, rfl, e0, e1, e2, e3, b0, b1, b2, b3⟩ := h
  have hb : ∀ o, Below w.heap.size w (w.alloc o) := fun o => (Below.refl _ _).alloc (Nat.le_refl _) _
  have H0 := hide (fun o => allInts_true _ _ _ _ (e0.later (hb o)) b0 hm)
  have H1 := hide (fun o => allInts_true _ _ _ _ (e1.later (hb o)) b1 hm)
  have H2 := hide (fun o => allInts_true _ _ _ _ (e2.later (hb o)) b2 hm)
  have H3 := hide (fun o => allInts_true _ _ _ _ (e3.later (hb o)) b3 hm)
  obtain ⟨a0, c0, rfl⟩ := e0.slice
  obtain ⟨a1, c1, rfl⟩ := e1.slice
  obtain ⟨a2, c2, rfl⟩ := e2.slice
  obtain ⟨a3, c3, rfl⟩ := e3.slice
  have HB := hide hb
  clear e0 e1 e2 e3 hb
  go_enter Tryz.func18, Tryz.ntmps18
  go_wp2_with fail
  refine (H0.out _).mono ?_
  rintro e w' ⟨rfl, rfl⟩
  go_wp2_with fail
  refine (H1.out _).mono ?_
  rintro e w' ⟨rfl, rfl⟩
  go_wp2_with fail
  refine (H2.out _).mono ?_
  rintro e w' ⟨rfl, rfl⟩
  go_wp2_with fail
  refine (H3.out _).mono ?_
  rintro e w' ⟨rfl, rfl⟩
  go_wp2
  go_ret
  exact ⟨rfl, HB.out _⟩

/-- What an entry of the book holds: four lists, all of the mark. -/
def StillE (w : World) (v : Value) (m : Nat) : Prop :=
  ∃ l0 l1 l2 l3 n0 n1 n2 n3, v = .agg #[l0, l1, l2, l3, .int .i64 m] ∧ Even w 5 l0 n0 (markE m) ∧ Even w 5 l1 n1 (markE m) ∧ Even w 5 l2 n2 (markE m) ∧ Even w 5 l3 n3 (markE m) ∧ n0 ≤ 140737488355328 ∧ n1 ≤ 140737488355328 ∧ n2 ≤ 140737488355328 ∧ n3 ≤ 140737488355328
theorem StillE.later {w w' : World} {v : Value} {m : Nat} (h : StillE w v m) (hb : Below w.heap.size w w') : StillE w' v m := by
  obtain ⟨l0, l1, l2, l3, n0, n1, n2, n3, hv, e0, e1, e2, e3, r⟩ := h
  exact ⟨l0, l1, l2, l3, n0, n1, n2, n3, hv, e0.later hb, e1.later hb, e2.later hb, e3.later hb, r⟩
set_option maxRecDepth 100000 in
set_option maxHeartbeats 400000 in
theorem stillE_true (v : Value) (m : Nat) (w : World) (h : StillE w v m) (hm : m ≤ 140737488355328) :
    Calls Tryz.prog 19 #[v] w fun e w' => e = .returned (.bool true) ∧ Below w.heap.size w w' := by
  obtain ⟨l0, l1, l2, l3, n0, n1, n2, n3, rfl, e0, e1, e2, e3, b0, b1, b2, b3⟩ := h
  have hb : ∀ o, Below w.heap.size w (w.alloc o) := fun o => (Below.refl _ _).alloc (Nat.le_refl _) _
  have H0 := hide (fun o => allEvents_true _ _ _ _ (e0.later (hb o)) b0 hm)
  have H1 := hide (fun o => allEvents_true _ _ _ _ (e1.later (hb o)) b1 hm)
  have H2 := hide (fun o => allEvents_true _ _ _ _ (e2.later (hb o)) b2 hm)
  have H3 := hide (fun o => allEvents_true _ _ _ _ (e3.later (hb o)) b3 hm)
  obtain ⟨a0, c0, rfl⟩ := e0.slice
  obtain ⟨a1, c1, rfl⟩ := e1.slice
  obtain ⟨a2, c2, rfl⟩ := e2.slice
  obtain ⟨a3, c3, rfl⟩ := e3.slice
  have HB := hide hb
  clear e0 e1 e2 e3 hb
  go_enter Tryz.func19, Tryz.ntmps19
  go_wp2_with fail
  refine (H0.out _).mono ?_
  rintro e w' ⟨rfl, rfl⟩
  go_wp2_with fail
  refine (H1.out _).mono ?_
  rintro e w' ⟨rfl, rfl⟩
  go_wp2_with fail
  refine (H2.out _).mono ?_
  rintro e w' ⟨rfl, rfl⟩
  go_wp2_with fail
  refine (H3.out _).mono ?_
  rintro e w' ⟨rfl, rfl⟩
  go_wp2
  go_ret
  exact ⟨rfl, HB.out _⟩

end Go.Proofs.YthloffgebebijaaGreat

/- BookB: the book of tillerlaw as data: rows of entries, each of which bears its mark. -/
namespace Go.Proofs.YthloffgebebijaaGreat
open Go.RowKit

/-- A row of the book: n entries, the i-th of which bears the i-th mark. -/
def Ents (w : World) (S : Nat → Prop) (B : Nat) (te e : TypeId) (size : Nat) (mark : Nat → List Value) (v : Value) (n : Nat) : Prop :=
  ∃ es : List (List Value), w.ownsRow B te 5 v n es.flatten ∧ es.length = n ∧ (∀ k, v.ownBlock = some k → S k) ∧
    ∀ (i : Nat) (c : List Value), es[i]? = some c → ∃ l0 l1 l2 l3, c = [l0, l1, l2, l3, .int .i64 i] ∧ Bears w S e size (mark i) (.agg #[l0, l1, l2, l3, .int .i64 i]) i

theorem ents_five {es : List (List Value)} {P : Nat → Value → Value → Value → Value → Prop} (h : ∀ (i : Nat) (c : List Value), es[i]? = some c → ∃ l0 l1 l2 l3, c = [l0, l1, l2, l3, .int .i64 i] ∧ P i l0 l1 l2 l3) : ∀ c ∈ es, c.length = 5 := by
  intro c hc
  obtain ⟨i, hi⟩ := List.getElem?_of_mem hc
  obtain ⟨l0, l1, l2, l3, rfl, _⟩ := h i c hi
  rfl

theorem owns_same {w w' : World} {base : Nat} {e : TypeId} {size n : Nat} {v : Value} {xs : List Value} (h : w.ownsRow base e size v n xs) (hs : ∀ k, v.ownBlock = some k → w'.heap[k]? = w.heap[k]?) : w'.ownsRow base e size v n xs := by
  obtain ⟨h1, h2⟩ := h
  refine ⟨h1, h2.imp id ?_⟩
  rintro ⟨g, cap, cur, rfl, hg, hh, r⟩
  exact ⟨g, cap, cur, rfl, hg, (hs g rfl).trans hh, r⟩
theorem owns_keptT {w w' : World} {base : Nat} {e e' : TypeId} {size n B : Nat} {v : Value} {xs : List Value} (h : w.ownsRow base e size v n xs) (hk : KeepBut e' B w w') (hne : e ≠ e') : w'.ownsRow base e size v n xs := by
  obtain ⟨h1, h2⟩ := h
  refine ⟨h1, h2.imp id ?_⟩
  rintro ⟨g, cap, cur, hv, hg, hh, r⟩
  exact ⟨g, cap, cur, hv, hg, (show Blk w' g cur e from Blk.kept (show Blk w g cur e from hh) hk hne), r⟩

theorem Ents.same {w w' : World} {S S' : Nat → Prop} {B : Nat} {te e : TypeId} {size n : Nat} {mark : Nat → List Value} {v : Value} (h : Ents w S B te e size mark v n) (hs : ∀ k, S k → w'.heap[k]? = w.heap[k]?) (hS : ∀ k, S k → S' k) : Ents w' S' B te e size mark v n := by
  obtain ⟨es, h1, h2, h3, h4⟩ := h
  refine ⟨es, owns_same h1 fun k hk => hs k (h3 k hk), h2, fun k hk => hS k (h3 k hk), fun i c hc => ?_⟩
  obtain ⟨l0, l1, l2, l3, rfl, hb⟩ := h4 i c hc
  exact ⟨l0, l1, l2, l3, rfl, hb.same hs hS⟩
theorem Ents.keptBut {w w' : World} {S : Nat → Prop} {B B' : Nat} {te e e' : TypeId} {size n : Nat} {mark : Nat → List Value} {v : Value} (h : Ents w S B te e size mark v n) (hk : KeepBut e' B' w w') (ht : te ≠ e') (he : e ≠ e') : Ents w' S B te e size mark v n := by
  obtain ⟨es, h1, h2, h3, h4⟩ := h
  refine ⟨es, owns_keptT h1 hk ht, h2, h3, fun i c hc => ?_⟩
  obtain ⟨l0, l1, l2, l3, rfl, hb⟩ := h4 i c hc
  exact ⟨l0, l1, l2, l3, rfl, hb.keptBut hk he⟩
theorem Ents.slice {w : World} {S : Nat → Prop} {B : Nat} {te e : TypeId} {size n : Nat} {mark : Nat → List Value} {v : Value} (h : Ents w S B te e size mark v n) : ∃ a cap, v = .slice a n cap := by
  obtain ⟨es, ⟨_, ho⟩, _⟩ := h
  rcases ho with ⟨rfl, hn⟩ | ⟨g, cap, cur, rfl, _⟩
  · exact ⟨none, 0, by rw [hn]⟩
  · exact ⟨_, cap, rfl⟩
theorem Ents.nil (w : World) (S : Nat → Prop) (B : Nat) (te e : TypeId) (size : Nat) (mark : Nat → List Value) : Ents w S B te e size mark (.slice none 0 0) 0 :=
  ⟨[], World.ownsRow_nil w B te 5, rfl, fun k hk => by simp [Value.ownBlock] at hk, fun i c hc => by simp at hc⟩

/-- The i-th entry. -/
theorem Ents.get {w : World} {S : Nat → Prop} {B : Nat} {te e : TypeId} {size n : Nat} {mark : Nat → List Value} {v : Value} (h : Ents w S B te e size mark v n) {i : Nat} (hi : i < n) :
    ∃ b cap l0 l1 l2 l3, v = .slice (some ⟨b, 0, none⟩) n cap ∧ b < w.heap.size ∧ w.cell? ⟨b, i * 5, none⟩ = some l0 ∧ w.cell? ⟨b, i * 5 + 1, none⟩ = some l1 ∧ w.cell? ⟨b, i * 5 + 2, none⟩ = some l2 ∧ w.cell? ⟨b, i * 5 + 3, none⟩ = some l3 ∧ w.cell? ⟨b, i * 5 + 4, none⟩ = some (.int .i64 i) ∧
      Bears w S e size (mark i) (.agg #[l0, l1, l2, l3, .int .i64 i]) i := by
  obtain ⟨es, ho, h2, h3, h4⟩ := h
  obtain ⟨c, hc⟩ := get_of_lt (l := es) (k := i) (by omega)
  have h5 := ents_five h4
  obtain ⟨l0, l1, l2, l3, rfl, hb⟩ := h4 i c hc
  rcases ho.2 with ⟨rfl, h0⟩ | ⟨g, cap, cur, rfl, hg, hh, hnc, hcm, hcs, ht⟩
  · omega
  refine ⟨g, cap, l0, l1, l2, l3, rfl, lt_of_block hh, ?_⟩
  have hcell : ∀ j, j < 5 → w.cell? ⟨g, i * 5 + j, none⟩ = [l0, l1, l2, l3, Value.int .i64 i][j]? := by
    intro j hj
    rw [cell_of_row w g _ cur te (0, 0) hh]
    have : (cur.toList.take (n * 5))[i * 5 + j]? = es.flatten[i * 5 + j]? := by rw [ht]
    rw [List.getElem?_take, if_pos (by omega), flatten_get h5 i j hj, hc] at this
    simpa using this
  exact ⟨by simpa using hcell 0 (by decide), by simpa using hcell 1 (by decide), by simpa using hcell 2 (by decide), by simpa using hcell 3 (by decide), by simpa using hcell 4 (by decide), hb⟩

theorem Bears.bound {w : World} {S : Nat → Prop} {e : TypeId} {size m : Nat} {cs : List Value} {r : Value} (h : Bears w S e size cs r m) : Bears w (fun k => S k ∧ k < w.heap.size) e size cs r m := by
  obtain ⟨l0, l1, l2, l3, n0, n1, n2, n3, hr, ⟨m0, m1, m2, m3⟩, hn, hs⟩ := h
  refine ⟨l0, l1, l2, l3, n0, n1, n2, n3, hr, ⟨m0, m1, m2, m3⟩, hn, fun k hk => ⟨hs k hk, ?_⟩⟩
  rcases hk with hk | hk | hk | hk
  · exact (World.ownsRow.lt m0 k hk).2
  · exact (World.ownsRow.lt m1 k hk).2
  · exact (World.ownsRow.lt m2 k hk).2
  · exact (World.ownsRow.lt m3 k hk).2
theorem Ents.bound {w : World} {S : Nat → Prop} {B : Nat} {te e : TypeId} {size n : Nat} {mark : Nat → List Value} {v : Value} (h : Ents w S B te e size mark v n) : Ents w (fun k => S k ∧ k < w.heap.size) B te e size mark v n := by
  obtain ⟨es, h1, h2, h3, h4⟩ := h
  refine ⟨es, h1, h2, fun k hk => ⟨h3 k hk, (World.ownsRow.lt h1 k hk).2⟩, fun i c hc => ?_⟩
  obtain ⟨l0, l1, l2, l3, rfl, hb⟩ := h4 i c hc
  exact ⟨l0, l1, l2, l3, rfl, hb.bound⟩

/-- The book, in the block W of tillerlaw's World. -/
def BookAt (w : World) (S : Nat → Prop) (B W : Nat) (ps : Value) (nb ni ne nl nt : Nat) : Prop :=
  (∀ k, S k → B ≤ k ∧ k < w.heap.size) ∧ S W ∧ ∃ vb vi ve vl vt, Blk w W #[ps, vb, vi, ve, vl, vt] 36 ∧
    Ents w S B 59 5 1 markB vb nb ∧ Ents w S B 61 3 1 markI vi ni ∧ Ents w S B 64 149 5 markE ve ne ∧
    Ents w S B 66 52 2 markL vl nl ∧ Ents w S B 68 55 3 markT vt nt

theorem BookAt.same {w w' : World} {S : Nat → Prop} {B W : Nat} {ps : Value} {nb ni ne nl nt : Nat} (h : BookAt w S B W ps nb ni ne nl nt) (hs : ∀ k, S k → w'.heap[k]? = w.heap[k]?) (hz : w.heap.size ≤ w'.heap.size) : BookAt w' S B W ps nb ni ne nl nt := by
  obtain ⟨h1, h2, vb, vi, ve, vl, vt, hb, e1, e2, e3, e4, e5⟩ := h
  exact ⟨fun k hk => ⟨(h1 k hk).1, Nat.lt_of_lt_of_le (h1 k hk).2 hz⟩, h2, vb, vi, ve, vl, vt, (hs W h2).trans hb, e1.same hs fun _ => id, e2.same hs fun _ => id, e3.same hs fun _ => id, e4.same hs fun _ => id, e5.same hs fun _ => id⟩
theorem BookAt.later {w w' : World} {S : Nat → Prop} {B W : Nat} {ps : Value} {nb ni ne nl nt : Nat} (h : BookAt w S B W ps nb ni ne nl nt) (hb : Below w.heap.size w w') : BookAt w' S B W ps nb ni ne nl nt :=
  h.same (fun k hk => hb.block k (h.1 k hk).2) hb.size

theorem Bears.stillB {w : World} {S : Nat → Prop} {r : Value} {m : Nat} (h : Bears w S 5 1 (markB m) r m) : StillB w r m := by
  obtain ⟨l0, l1, l2, l3, n0, n1, n2, n3, hr, ⟨m0, m1, m2, m3⟩, hn, _⟩ := h
  exact ⟨l0, l1, l2, l3, n0, n1, n2, n3, hr, m0.even rfl, m1.even rfl, m2.even rfl, m3.even rfl, by omega, by omega, by omega, by omega⟩
theorem Bears.stillI {w : World} {S : Nat → Prop} {r : Value} {m : Nat} (h : Bears w S 3 1 (markI m) r m) : StillI w r m := by
  obtain ⟨l0, l1, l2, l3, n0, n1, n2, n3, hr, ⟨m0, m1, m2, m3⟩, hn, _⟩ := h
  exact ⟨l0, l1, l2, l3, n0, n1, n2, n3, hr, m0.even rfl, m1.even rfl, m2.even rfl, m3.even rfl, by omega, by omega, by omega, by omega⟩
theorem Bears.stillE {w : World} {S : Nat → Prop} {r : Value} {m : Nat} (h : Bears w S 149 5 (markE m) r m) : StillE w r m := by
  obtain ⟨l0, l1, l2, l3, n0, n1, n2, n3, hr, ⟨m0, m1, m2, m3⟩, hn, _⟩ := h
  exact ⟨l0, l1, l2, l3, n0, n1, n2, n3, hr, m0.even rfl, m1.even rfl, m2.even rfl, m3.even rfl, by omega, by omega, by omega, by omega⟩
theorem Bears.stillL {w : World} {S : Nat → Prop} {r : Value} {m : Nat} (h : Bears w S 52 2 (markL m) r m) : StillL w r m := by
  obtain ⟨l0, l1, l2, l3, n0, n1, n2, n3, hr, ⟨m0, m1, m2, m3⟩, hn, _⟩ := h
  exact ⟨l0, l1, l2, l3, n0, n1, n2, n3, hr, m0.even rfl, m1.even rfl, m2.even rfl, m3.even rfl, by omega, by omega, by omega, by omega⟩
theorem Bears.stillT {w : World} {S : Nat → Prop} {r : Value} {m : Nat} (h : Bears w S 55 3 (markT m) r m) : StillT w r m := by
  obtain ⟨l0, l1, l2, l3, n0, n1, n2, n3, hr, ⟨m0, m1, m2, m3⟩, hn, _⟩ := h
  exact ⟨l0, l1, l2, l3, n0, n1, n2, n3, hr, m0.even rfl, m1.even rfl, m2.even rfl, m3.even rfl, by omega, by omega, by omega, by omega⟩

/-- Behind an append of one entry to a row of the book. -/
theorem Ents.snoc {w w' : World} {S S' : Nat → Prop} {B : Nat} {te e : TypeId} {size n : Nat} {mark : Nat → List Value} {v' : Value} {l0 l1 l2 l3 : Value} {es : List (List Value)}
    (hl : es.length = n) (h4 : ∀ (i : Nat) (c : List Value), es[i]? = some c → ∃ l0 l1 l2 l3, c = [l0, l1, l2, l3, .int .i64 i] ∧ Bears w S e size (mark i) (.agg #[l0, l1, l2, l3, .int .i64 i]) i)
    (hr : Bears w S' e size (mark n) (.agg #[l0, l1, l2, l3, .int .i64 n]) n) (hS : ∀ k, S k → S' k) (hk : KeepBut te B w w') (hne : e ≠ te)
    (ho : w'.ownsRow B te 5 v' (n + 1) (es.flatten ++ [l0, l1, l2, l3, .int .i64 n])) (hv : ∀ k, v'.ownBlock = some k → S' k) : Ents w' S' B te e size mark v' (n + 1) := by
  refine ⟨es ++ [[l0, l1, l2, l3, .int .i64 n]], by simpa using ho, by simp [hl], hv, fun i c hc => ?_⟩
  rw [List.getElem?_append] at hc
  split at hc
  · obtain ⟨k0, k1, k2, k3, rfl, hb⟩ := h4 i c hc
    exact ⟨k0, k1, k2, k3, rfl, (hb.same (fun _ _ => rfl) hS).keptBut hk hne⟩
  · rename_i hlt
    by_cases hin : i = n
    · subst hin
      simp [hl] at hc
      subst hc
      exact ⟨l0, l1, l2, l3, rfl, hr.keptBut hk hne⟩
    · rw [List.getElem?_eq_none (by simp; omega)] at hc
      simp at hc

end Go.Proofs.YthloffgebebijaaGreat
