/- BookA: the walks of tillerlaw's all.. and still: each list of the book bears its mark. -/
import Derived.Test.YthloffgebebijaaGreatRows
import Derived.Test.YthloffgebebijaaGreatBase
import Derived.Test.YthloffgebebijaaGreatMark
namespace Go.Proofs.YthloffgebebijaaGreat
open Go.RowKit

/-- The value v reads as n elements of 'size' cells, each of which holds cs. -/
def Even (w : World) (size : Nat) (v : Value) (n : Nat) (cs : List Value) : Prop :=
  ∃ a cap, v = .slice a n cap ∧ (n = 0 ∨ ∃ b o, a = some ⟨b, o, none⟩ ∧ b < w.heap.size ∧ ∀ i, i < n → ∀ (j : Nat) (u : Value), cs[j]? = some u → w.cell? ⟨b, o + i * size + j, none⟩ = some u)

theorem Even.later {w w' : World} {size n : Nat} {v : Value} {cs : List Value} (h : Even w size v n cs) (hb : Below w.heap.size w w') : Even w' size v n cs := by
  obtain ⟨a, cap, hv, h⟩ := h
  refine ⟨a, cap, hv, h.imp id ?_⟩
  rintro ⟨b, o, ha, hlt, hc⟩
  exact ⟨b, o, ha, Nat.lt_of_lt_of_le hlt hb.size, fun i hi j u hj => (hb.cell (p := ⟨b, _, none⟩) hlt).trans (hc i hi j u hj)⟩
theorem Even.slice {w : World} {size n : Nat} {v : Value} {cs : List Value} (h : Even w size v n cs) : ∃ a cap, v = .slice a n cap := by
  obtain ⟨a, cap, hv, _⟩ := h
  exact ⟨a, cap, hv⟩

theorem Mk.even {w : World} {e : TypeId} {size n : Nat} {cs : List Value} {v : Value} (h : Mk w e size cs v n) (hcs : cs.length = size) : Even w size v n cs := by
  rcases h.cells_at hcs with h0 | ⟨b, cap, rfl, hb, hc⟩
  · obtain ⟨a, cap, rfl⟩ := h.slice
    exact ⟨a, cap, rfl, .inl h0⟩
  · exact ⟨_, cap, rfl, .inr ⟨b, 0, rfl, hb, hc⟩⟩

def markB (m : Nat) : List Value := [.int .u8 ((m : Int) % 251)]
def markL (m : Nat) : List Value := [.int .i64 (-1000 - (m : Int)), .int .i64 0]
def markT (m : Nat) : List Value := [.int .i64 (-1000 - (m : Int)), .int .i64 0, .slice none 0 0]

set_option maxRecDepth 100000 in
set_option maxHeartbeats 400000 in
theorem allBytes_true (v : Value) (n m : Nat) (w : World) (h : Even w 1 v n (markB m)) (hn : n ≤ 140737488355328) (hm : m ≤ 140737488355328) :
    Calls Tryz.prog 47 #[v, .int .i64 m] w fun e w' => e = .returned (.bool true) ∧ w = w' := by
  obtain ⟨a, cap, rfl, hv⟩ := h
  have HV := hide hv
  clear hv
  go_enter Tryz.func47, Tryz.ntmps47
  go_wp2
  go_loop [5] (fun i => ∃ k : Nat, i = .int .i64 k ∧ k ≤ n) (fun i => n - (intOf i).toNat)
  case atStart => exact ⟨0, rfl, Nat.zero_le _⟩
  case round =>
    obtain ⟨k, rfl, hk⟩ := hrel
    by_cases hlt : k < n
    · rcases HV.out with h0 | ⟨b, o, rfl, -, hc⟩
      · omega
      have d0 := hc k hlt 0 _ rfl
      simp only [Nat.mul_one, Nat.add_zero] at d0
      clear hc
      go_wp2
      go_round
      case rel => exact ⟨k + 1, by go_num, by omega⟩
      case measure => simp [intOf]; omega
    · go_wp2
      go_ret
      exact ⟨rfl, rfl⟩

set_option maxRecDepth 100000 in
set_option maxHeartbeats 400000 in
theorem allLimits_true (v : Value) (n m : Nat) (w : World) (h : Even w 2 v n (markL m)) (hn : n ≤ 140737488355328) (hm : m ≤ 140737488355328) :
    Calls Tryz.prog 50 #[v, .int .i64 m] w fun e w' => e = .returned (.bool true) ∧ w = w' := by
  obtain ⟨a, cap, rfl, hv⟩ := h
  have HV := hide hv
  clear hv
  go_enter Tryz.func50, Tryz.ntmps50
  go_wp2
  go_loop [5] (fun i => ∃ k : Nat, i = .int .i64 k ∧ k ≤ n) (fun i => n - (intOf i).toNat)
  case atStart => exact ⟨0, rfl, Nat.zero_le _⟩
  case round =>
    obtain ⟨k, rfl, hk⟩ := hrel
    by_cases hlt : k < n
    · rcases HV.out with h0 | ⟨b, o, rfl, -, hc⟩
      · omega
      have d0 := hc k hlt 0 _ rfl
      have d1 := hc k hlt 1 _ rfl
      simp only [Nat.add_zero] at d0
      clear hc
      go_wp2
      go_round
      case rel => exact ⟨k + 1, by go_num, by omega⟩
      case measure => simp [intOf]; omega
    · go_wp2
      go_ret
      exact ⟨rfl, rfl⟩

set_option maxRecDepth 100000 in
set_option maxHeartbeats 400000 in
theorem allTasks_true (v : Value) (n m : Nat) (w : World) (h : Even w 3 v n (markT m)) (hn : n ≤ 140737488355328) (hm : m ≤ 140737488355328) :
    Calls Tryz.prog 51 #[v, .int .i64 m] w fun e w' => e = .returned (.bool true) ∧ w = w' := by
  obtain ⟨a, cap, rfl, hv⟩ := h
  have HV := hide hv
  clear hv
  go_enter Tryz.func51, Tryz.ntmps51
  go_wp2
  go_loop [5] (fun i => ∃ k : Nat, i = .int .i64 k ∧ k ≤ n) (fun i => n - (intOf i).toNat)
  case atStart => exact ⟨0, rfl, Nat.zero_le _⟩
  case round =>
    obtain ⟨k, rfl, hk⟩ := hrel
    by_cases hlt : k < n
    · rcases HV.out with h0 | ⟨b, o, rfl, -, hc⟩
      · omega
      have d0 := hc k hlt 0 _ rfl
      have d2 := hc k hlt 2 _ rfl
      simp only [Nat.add_zero] at d0
      clear hc
      go_wp2
      go_round
      case rel => exact ⟨k + 1, by go_num, by omega⟩
      case measure => simp [intOf]; omega
    · go_wp2
      go_ret
      exact ⟨rfl, rfl⟩

/-- What an entry of the book holds: four lists, all of the mark. -/
def StillB (w : World) (v : Value) (m : Nat) : Prop :=
  ∃ l0 l1 l2 l3 n0 n1 n2 n3, v = .agg #[l0, l1, l2, l3, .int .i64 m] ∧ Even w 1 l0 n0 (markB m) ∧ Even w 1 l1 n1 (markB m) ∧ Even w 1 l2 n2 (markB m) ∧ Even w 1 l3 n3 (markB m) ∧ n0 ≤ 140737488355328 ∧ n1 ≤ 140737488355328 ∧ n2 ≤ 140737488355328 ∧ n3 ≤ 140737488355328
theorem StillB.later {w w' : World} {v : Value} {m : Nat} (h : StillB w v m) (hb : Below w.heap.size w w') : StillB w' v m := by
  obtain ⟨l0, l1, l2, l3, n0, n1, n2, n3, hv, e0, e1, e2, e3, r⟩ := h
  exact ⟨l0, l1, l2, l3, n0, n1, n2, n3, hv, e0.later hb, e1.later hb, e2.later hb, e3.later hb, r⟩
set_option maxRecDepth 100000 in
set_option maxHeartbeats 400000 in
theorem stillB_true (v : Value) (m : Nat) (w : World) (h : StillB w v m) (hm : m ≤ 140737488355328) :
    Calls Tryz.prog 17 #[v] w fun e w' => e = .returned (.bool true) ∧ Below w.heap.size w w' := by
  obtain ⟨l0, l1, l2, l3, n0, n1, n2, n3, rfl, e0, e1, e2, e3, b0, b1, b2, b3⟩ := h
  have hb : ∀ o, Below w.heap.size w (w.alloc o) := fun o => (Below.refl _ _).alloc (Nat.le_refl _) _
  have H0 := hide (fun o => allBytes_true _ _ _ _ (e0.later (hb o)) b0 hm)
  have H1 := hide (fun o => allBytes_true _ _ _ _ (e1.later (hb o)) b1 hm)
  have H2 := hide (fun o => allBytes_true _ _ _ _ (e2.later (hb o)) b2 hm)
  have H3 := hide (fun o => allBytes_true _ _ _ _ (e3.later (hb o)) b3 hm)
  obtain ⟨a0, c0, rfl⟩ := e0.slice
  obtain ⟨a1, c1, rfl⟩ := e1.slice
  obtain ⟨a2, c2, rfl⟩ := e2.slice
  obtain ⟨a3, c3, rfl⟩ := e3.slice
  have HB := hide hb
  clear e0 e1 e2 e3 hb
  go_enter Tryz.func17, Tryz.ntmps17
  go_wp2_with fail
  refine (H0.out _).mono ?_
  rintro e w' ⟨rfl, rfl⟩
  go_wp2_with fail
  refine (H1.out _).mono ?_
  rintro e w' ⟨rfl, rfl⟩
  go_wp2_with fail
  refine (H2.out _).mono ?_
  rintro e w' ⟨rfl, rfl⟩
  go_wp2_with fail
  refine (H3.out _).mono ?_
  rintro e w' ⟨rfl, rfl⟩
  go_wp2
  go_ret
  exact ⟨rfl, HB.out _⟩

/-- What an entry of the book holds: four lists, all of the mark. -/
def StillL (w : World) (v : Value) (m : Nat) : Prop :=
  ∃ l0 l1 l2 l3 n0 n1 n2 n3, v = .agg #[l0, l1, l2, l3, .int .i64 m] ∧ Even w 2 l0 n0 (markL m) ∧ Even w 2 l1 n1 (markL m) ∧ Even w 2 l2 n2 (markL m) ∧ Even w 2 l3 n3 (markL m) ∧ n0 ≤ 140737488355328 ∧ n1 ≤ 140737488355328 ∧ n2 ≤ 140737488355328 ∧ n3 ≤ 140737488355328
theorem StillL.later {w w' : World} {v : Value} {m : Nat} (h : StillL w v m) (hb : Below w.heap.size w w') : StillL w' v m := by
  obtain ⟨l0, l1, l2, l3, n0, n1, n2, n3, hv, e0, e1, e2, e3, r⟩ := h
  exact ⟨l0, l1, l2, l3, n0, n1, n2, n3, hv, e0.later hb, e1.later hb, e2.later hb, e3.later hb, r⟩
set_option maxRecDepth 100000 in
set_option maxHeartbeats 400000 in
theorem stillL_true (v : Value) (m : Nat) (w : World) (h : StillL w v m) (hm : m ≤ 140737488355328) :
    Calls Tryz.prog 20 #[v] w fun e w' => e = .returned (.bool true) ∧ Below w.heap.size w w' := by
  obtain ⟨l0, l1, l2, l3, n0, n1, n2, n3, rfl, e0, e1, e2, e3, b0, b1, b2, b3⟩ := h
  have hb : ∀ o, Below w.heap.size w (w.alloc o) := fun o => (Below.refl _ _).alloc (Nat.le_refl _) _
  have H0 := hide (fun o => allLimits_true _ _ _ _ (e0.later (hb o)) b0 hm)
  have H1 := hide (fun o => allLimits_true _ _ _ _ (e1.later (hb o)) b1 hm)
  have H2 := hide (fun o => allLimits_true _ _ _ _ (e2.later (hb o)) b2 hm)
  have H3 := hide (fun o => allLimits_true _ _ _ _ (e3.later (hb o)) b3 hm)
  obtain ⟨a0, c0, rfl⟩ := e0.slice
  obtain ⟨a1, c1, rfl⟩ := e1.slice
  obtain ⟨a2, c2, rfl⟩ := e2.slice
  obtain ⟨a3, c3, rfl⟩ := e3.slice
  have HB := hide hb
  clear e0 e1 e2 e3 hb
  go_enter Tryz.func20, Tryz.ntmps20
  go_wp2_with fail
  refine (H0.out _).mono ?_
  rintro e w' ⟨rfl, rfl⟩
  go_wp2_with fail
  refine (H1.out _).mono ?_
  rintro e w' ⟨rfl, rfl⟩
  go_wp2_with fail
  refine (H2.out _).mono ?_
  rintro e w' ⟨rfl, rfl⟩
  go_wp2_with fail
  refine (H3.out _).mono ?_
  rintro e w' ⟨rfl, rfl⟩
  go_wp2
  go_ret
  exact ⟨rfl, HB.out _⟩

/-- What an entry of the book holds: four lists, all of the mark. -/
def StillT (w : World) (v : Value) (m : Nat) : Prop :=
  ∃ l0 l1 l2 l3 n0 n1 n2 n3, v = .agg #[l0, l1, l2, l3, .int .i64 m] ∧ Even w 3 l0 n0 (markT m) ∧ Even w 3 l1 n1 (markT m) ∧ Even w 3 l2 n2 (markT m) ∧ Even w 3 l3 n3 (markT m) ∧ n0 ≤ 140737488355328 ∧ n1 ≤ 140737488355328 ∧ n2 ≤ 140737488355328 ∧ n3 ≤ 140737488355328
theorem StillT.later {w w' : World} {v : Value} {m : Nat} (h : StillT w v m) (hb : Below w.heap.size w w') : StillT w' v m := by
  obtain ⟨l0, l1, l2, l3, n0, n1, n2, n3, hv, e0, e1, e2, e3, r⟩ := h
  exact ⟨l0, l1, l2, l3, n0, n1, n2, n3, hv, e0.later hb, e1.later hb, e2.later hb, e3.later hb, r⟩
set_option maxRecDepth 100000 in
set_option maxHeartbeats 400000 in
theorem stillT_true (v : Value) (m : Nat) (w : World) (h : StillT w v m) (hm : m ≤ 140737488355328) :
    Calls Tryz.prog 21 #[v] w fun e w' => e = .returned (.bool true) ∧ Below w.heap.size w w' := by
  obtain ⟨l0, l1, l2, l3, n0, n1, n2, n3, rfl, e0, e1, e2, e3, b0, b1, b2, b3⟩ := h
  have hb : ∀ o, Below w.heap.size w (w.alloc o) := fun o => (Below.refl _ _).alloc (Nat.le_refl _) _
  have H0 := hide (fun o => allTasks_true _ _ _ _ (e0.later (hb o)) b0 hm)
  have H1 := hide (fun o => allTasks_true _ _ _ _ (e1.later (hb o)) b1 hm)
  have H2 := hide (fun o => allTasks_true _ _ _ _ (e2.later (hb o)) b2 hm)
  have H3 := hide (fun o => allTasks_true _ _ _ _ (e3.later (hb o)) b3 hm)
  obtain ⟨a0, c0, rfl⟩ := e0.slice
  obtain ⟨a1, c1, rfl⟩ := e1.slice
  obtain ⟨a2, c2, rfl⟩ := e2.slice
  obtain ⟨a3, c3, rfl⟩ := e3.slice
  have HB := hide hb
  clear e0 e1 e2 e3 hb
  go_enter Tryz.func21, Tryz.ntmps21
  go_wp2_with fail
  refine (H0.out _).mono ?_
  rintro e w' ⟨rfl, rfl⟩
  go_wp2_with fail
  refine (H1.out _).mono ?_
  rintro e w' ⟨rfl, rfl⟩
  go_wp2_with fail
  refine (H2.out _).mono ?_
  rintro e w' ⟨rfl, rfl⟩
  go_wp2_with fail
  refine (H3.out _).mono ?_
  rintro e w' ⟨rfl, rfl⟩
  go_wp2
  go_ret
  exact ⟨rfl, HB.out _⟩

end Go.Proofs.YthloffgebebijaaGreat
