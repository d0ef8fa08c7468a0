/- JobsA: the walks of package jobs' list of jobs by deadline: Len, Less, Swap, as a row of the executive's own. -/
import Derived.Test.YthloffgebebijaaPlainA
import Derived.Test.YthloffgebebijaaFram
import Derived.Test.YthloffgebebijaaRows
import Derived.Deep.QuietTactic
import Derived.BigQuiet
import Derived.WalkSmall
namespace Go.Proofs.Ythloffgebebijaa
open Go.RowKit

/-- A row of the call's own behind a store into it. -/
theorem ownsRow_set {w : World} {base g cap n size : Nat} {e : TypeId} {xs : List Value} (h : w.ownsRow base e size (.slice (some ⟨g, 0, none⟩) n cap) n xs) (o : Nat) (u : Value) :
    (w.setCell ⟨g, o, none⟩ u).ownsRow base e size (.slice (some ⟨g, 0, none⟩) n cap) n (xs.set o u) := by
  obtain ⟨h1, h2⟩ := h
  refine ⟨by simpa using h1, .inr ?_⟩
  rcases h2 with ⟨h2, _⟩ | ⟨g', cap', cur, hv, hb, hh, hn, hc, hs, ht⟩
  · simp at h2
  simp only [Value.slice.injEq, Option.some.injEq, Addr.mk.injEq, true_and, and_true] at hv
  obtain ⟨rfl, rfl⟩ := hv
  refine ⟨g, cap, cur.setIfInBounds o u, rfl, hb, (Blk.set (show Blk w g cur e from hh) o u), hn, hc, by simpa using hs, ?_⟩
  rw [Array.toList_setIfInBounds, List.take_set, ht]
/-- The same row, shorter. -/
theorem ownsRow_take {w : World} {base g cap n m size : Nat} {e : TypeId} {xs : List Value} (h : w.ownsRow base e size (.slice (some ⟨g, 0, none⟩) n cap) n xs) (hm : m ≤ n) :
    w.ownsRow base e size (.slice (some ⟨g, 0, none⟩) m cap) m (xs.take (m * size)) := by
  obtain ⟨h1, h2⟩ := h
  have hmn : m * size ≤ n * size := Nat.mul_le_mul_right _ hm
  refine ⟨by rw [List.length_take, h1]; omega, .inr ?_⟩
  rcases h2 with ⟨h2, _⟩ | ⟨g', cap', cur, hv, hb, hh, hn, hc, hs, ht⟩
  · simp at h2
  simp only [Value.slice.injEq, Option.some.injEq, Addr.mk.injEq, true_and, and_true] at hv
  obtain ⟨rfl, rfl⟩ := hv
  exact ⟨g, cap, cur, rfl, hb, hh, by omega, hc, hs, by rw [← ht, List.take_take, Nat.min_eq_left hmn]⟩
theorem ownsRow_same {w w' : World} {base n size : Nat} {e : TypeId} {v : Value} {xs : List Value} (h : w.ownsRow base e size v n xs) (hs : ∀ k, v.ownBlock = some k → w'.heap[k]? = w.heap[k]?) : w'.ownsRow base e size v n xs := by
  obtain ⟨h1, h2⟩ := h
  refine ⟨h1, h2.imp id ?_⟩
  rintro ⟨g, cap, cur, rfl, hg, hh, r⟩
  exact ⟨g, cap, cur, rfl, hg, (hs g rfl).trans hh, r⟩
theorem ownsRow_lt {w : World} {base n size : Nat} {e : TypeId} {v : Value} {xs : List Value} (h : w.ownsRow base e size v n xs) {k : Nat} (hk : v.ownBlock = some k) : base ≤ k ∧ k < w.heap.size := by
  obtain ⟨h1, h2⟩ := h
  rcases h2 with ⟨rfl, _⟩ | ⟨g, cap, cur, rfl, hg, hh, _⟩
  · simp [Value.ownBlock] at hk
  · simp only [Value.ownBlock, Option.some.injEq] at hk
    subst hk
    exact ⟨hg, lt_of_block hh⟩
theorem ownsRow_slice {w : World} {base n size : Nat} {e : TypeId} {v : Value} {xs : List Value} (h : w.ownsRow base e size v n xs) : ∃ a cap, v = .slice a n cap := by
  obtain ⟨h1, h2⟩ := h
  rcases h2 with ⟨rfl, rfl⟩ | ⟨g, cap, cur, rfl, _⟩
  · exact ⟨none, 0, rfl⟩
  · exact ⟨_, _, rfl⟩
theorem ownsRow_some {w : World} {base n size : Nat} {e : TypeId} {v : Value} {xs : List Value} (h : w.ownsRow base e size v n xs) (hn : 0 < n) : ∃ g cap, v = .slice (some ⟨g, 0, none⟩) n cap ∧ n ≤ cap ∧ cap ≤ maxLen := by
  obtain ⟨h1, h2⟩ := h
  rcases h2 with ⟨rfl, rfl⟩ | ⟨g, cap, cur, rfl, _, _, h3, h4, _⟩
  · omega
  · exact ⟨_, _, rfl, h3, h4⟩

/-- A job's four cells, as the program keeps them. -/
def jobCells (j : Jb) : List Value := [.int .i64 j.number, .int .i64 j.task, .int .i64 j.cost, .int .i64 j.deadline]
def jrow (hs : List Jb) : List Value := (hs.map jobCells).flatten
theorem jrow_four (hs : List Jb) : ∀ c ∈ hs.map jobCells, c.length = 4 := by
  intro c hc
  obtain ⟨j, _, rfl⟩ := List.mem_map.1 hc
  rfl
theorem jrow_length (hs : List Jb) : (jrow hs).length = hs.length * 4 := by rw [jrow, flatten_len (jrow_four hs), List.length_map]
theorem jrow_get {hs : List Jb} {i : Nat} {j : Jb} (h : hs[i]? = some j) (k : Nat) (hk : k < 4) : (jrow hs)[i * 4 + k]? = (jobCells j)[k]? := by
  rw [jrow, flatten_get (jrow_four hs) i k hk, List.getElem?_map, h]
  rfl
theorem jrow_append (a b : List Jb) : jrow (a ++ b) = jrow a ++ jrow b := by simp [jrow]
theorem jrow_take (hs : List Jb) (m : Nat) : (jrow hs).take (m * 4) = jrow (hs.take m) := by
  induction hs generalizing m with
  | nil => simp [jrow]
  | cons j hs ih =>
    cases m with
    | zero => simp [jrow]
    | succ m =>
      have e : jrow (j :: hs) = jobCells j ++ jrow hs := rfl
      rw [List.take_succ_cons, e, List.take_append, List.take_of_length_le (by simp [jobCells]; omega)]
      rw [show (m + 1) * 4 - (jobCells j).length = m * 4 from by simp [jobCells]; omega, ih]
      rfl
theorem jrow_set {hs : List Jb} {i : Nat} {j : Jb} (hi : i < hs.length) : jrow (hs.set i j) = ((((jrow hs).set (i * 4) (.int .i64 j.number)).set (i * 4 + 1) (.int .i64 j.task)).set (i * 4 + 2) (.int .i64 j.cost)).set (i * 4 + 3) (.int .i64 j.deadline) := by
  induction hs generalizing i with
  | nil => simp at hi
  | cons h hs ih =>
    cases i with
    | zero => simp [jrow, jobCells]
    | succ i =>
      have e : ∀ (x : Jb) l, jrow (x :: l) = jobCells x ++ jrow l := fun _ _ => rfl
      rw [List.set_cons_succ, e, e, ih (by simpa using hi)]
      simp only [jobCells, List.cons_append, List.nil_append, show (i + 1) * 4 = i * 4 + 4 from by omega, show i * 4 + 4 + 1 = i * 4 + 1 + 4 from by omega, show i * 4 + 4 + 2 = i * 4 + 2 + 4 from by omega, show i * 4 + 4 + 3 = i * 4 + 3 + 4 from by omega, List.set_cons_succ]

/-- A row of jobs of the executive's own. -/
def JobsP (w : World) (base : Nat) (v : Value) (hs : List Jb) : Prop := w.ownsRow base 151 4 v hs.length (jrow hs)

theorem JobsP.cell {w : World} {base g cap n : Nat} {hs : List Jb} (h : JobsP w base (.slice (some ⟨g, 0, none⟩) n cap) hs) {i : Nat} {j : Jb} (hi : hs[i]? = some j) :
    w.cell? ⟨g, i * 4, none⟩ = some (.int .i64 j.number) ∧ w.cell? ⟨g, i * 4 + 1, none⟩ = some (.int .i64 j.task) ∧ w.cell? ⟨g, i * 4 + 2, none⟩ = some (.int .i64 j.cost) ∧ w.cell? ⟨g, i * 4 + 3, none⟩ = some (.int .i64 j.deadline) := by
  have hc : ∀ k u, (jrow hs)[k]? = some u → w.cell? ⟨g, k, none⟩ = some u := fun k u hu => by
    have := World.ownsRow.cells (g := g) h (by rfl) k u hu
    rw [Addr.add] at this
    split at this
    · rename_i h0; subst h0; exact this
    · simpa using this
  exact ⟨hc _ _ ((jrow_get hi 0 (by omega)).trans rfl), hc _ _ ((jrow_get hi 1 (by omega)).trans rfl), hc _ _ ((jrow_get hi 2 (by omega)).trans rfl), hc _ _ ((jrow_get hi 3 (by omega)).trans rfl)⟩

set_option maxRecDepth 100000 in
set_option maxHeartbeats 400000 in
theorem pLess_any (base g cap n i j : Nat) (hs : List Jb) (a b : Jb) (w : World) (h : JobsP w base (.slice (some ⟨g, 0, none⟩) n cap) hs) (hn : hs.length = n) (hi : hs[i]? = some a) (hj : hs[j]? = some b) :
    Calls Try.prog 107 #[.slice (some ⟨g, 0, none⟩) n cap, .int .i64 i, .int .i64 j] w fun e w' => e = .returned (.bool (jbBefore a b)) ∧ Below w.heap.size w w' := by
  obtain ⟨a0, a1, a2, a3⟩ := h.cell hi
  obtain ⟨b0, b1, b2, b3⟩ := h.cell hj
  have hil := lt_of_get hi
  have hjl := lt_of_get hj
  have hii : (i : Int) < (n : Int) := by omega
  have hjj : (j : Int) < (n : Int) := by omega
  clear h hi hj
  obtain ⟨an, at', ad, ac⟩ := a
  obtain ⟨bn, bt, bd, bc⟩ := b
  simp only at a0 a1 a2 a3 b0 b1 b2 b3
  by_cases he : ad = bd
  · have HE : (ad != bd) = false := by simp [he]
    have HR : Hid (jbBefore ⟨an, at', ad, ac⟩ ⟨bn, bt, bd, bc⟩ = decide (an < bn)) := by simp [Hid, jbBefore, he]
    go_enter Try.func107, Try.ntmps107
    go_wp2_with fail
    go_quiet ((fail))
    go_wp2_with fail
    go_quiet ((fail))
    go_wp2
    go_ret
    exact ⟨ret_bool HR.out.symm, below_drewN (below_drewN (Below.refl _ _) _) _⟩
  · have HE : (ad != bd) = true := by simp [he]
    have HR : Hid (jbBefore ⟨an, at', ad, ac⟩ ⟨bn, bt, bd, bc⟩ = decide (ad < bd)) := by simp [Hid, jbBefore, he]
    go_enter Try.func107, Try.ntmps107
    go_wp2_with fail
    go_quiet ((fail))
    go_wp2_with fail
    go_quiet ((fail))
    go_wp2
    go_ret
    exact ⟨ret_bool HR.out.symm, below_drewN (below_drewN (Below.refl _ _) _) _⟩

/-- A job is laid at a place of the row. -/
def put4 (w : World) (g i : Nat) (j : Jb) : World := (((w.setCell ⟨g, i * 4, none⟩ (.int .i64 j.number)).setCell ⟨g, i * 4 + 1, none⟩ (.int .i64 j.task)).setCell ⟨g, i * 4 + 2, none⟩ (.int .i64 j.cost)).setCell ⟨g, i * 4 + 3, none⟩ (.int .i64 j.deadline)
theorem JobsP.put {w : World} {base g cap n : Nat} {hs : List Jb} (h : JobsP w base (.slice (some ⟨g, 0, none⟩) n cap) hs) (hn : hs.length = n) {i : Nat} (hi : i < hs.length) (j : Jb) : JobsP (put4 w g i j) base (.slice (some ⟨g, 0, none⟩) n cap) (hs.set i j) := by
  subst hn
  have := ownsRow_set (ownsRow_set (ownsRow_set (ownsRow_set h (i * 4) (.int .i64 j.number)) (i * 4 + 1) (.int .i64 j.task)) (i * 4 + 2) (.int .i64 j.cost)) (i * 4 + 3) (.int .i64 j.deadline)
  rw [← jrow_set hi] at this
  unfold JobsP
  rw [List.length_set]
  exact this
theorem JobsP.same {w w' : World} {base : Nat} {v : Value} {hs : List Jb} (h : JobsP w base v hs) (hs' : ∀ k, v.ownBlock = some k → w'.heap[k]? = w.heap[k]?) : JobsP w' base v hs := ownsRow_same h hs'
theorem JobsP.later {w w' : World} {base : Nat} {v : Value} {hs : List Jb} (h : JobsP w base v hs) (hb : Below w.heap.size w w') : JobsP w' base v hs := ownsRow_same h fun k hk => hb.block k (ownsRow_lt h hk).2
theorem JobsP.drew {w : World} {base : Nat} {v : Value} {hs : List Jb} (h : JobsP w base v hs) : JobsP w.drew base v hs := h
theorem Fr.put {X : Nat → Prop} {w w' : World} (h : Fr X w w') (g i : Nat) (j : Jb) (hX : X g) : Fr X w (put4 w' g i j) :=
  (((h.trans (Fr.set (X := X) _ g _ _ hX) fun _ _ x => x).trans (Fr.set (X := X) _ g _ _ hX) fun _ _ x => x).trans (Fr.set (X := X) _ g _ _ hX) fun _ _ x => x).trans (Fr.set (X := X) _ g _ _ hX) fun _ _ x => x

set_option maxRecDepth 100000 in
set_option maxHeartbeats 1600000 in
theorem pSwap_any (base g cap n i j : Nat) (hs : List Jb) (a b : Jb) (w : World) (h : JobsP w base (.slice (some ⟨g, 0, none⟩) n cap) hs) (hn : hs.length = n) (hi : hs[i]? = some a) (hj : hs[j]? = some b) :
    Calls Try.prog 108 #[.slice (some ⟨g, 0, none⟩) n cap, .int .i64 i, .int .i64 j] w fun e w' => e = .returned (.tuple #[]) ∧ JobsP w' base (.slice (some ⟨g, 0, none⟩) n cap) (swp hs i j) ∧ Fr (fun k => k = g) w w' := by
  obtain ⟨a0, a1, a2, a3⟩ := h.cell hi
  obtain ⟨b0, b1, b2, b3⟩ := h.cell hj
  have HH := hide h
  have HI := hide hi
  have HJ := hide hj
  have hil := lt_of_get hi
  have hjl := lt_of_get hj
  have hii : (i : Int) < (n : Int) := by omega
  have hjj : (j : Int) < (n : Int) := by omega
  have hfz : ∀ o, w.frozen? ⟨g, o, none⟩ = false := by
    rcases h.2 with ⟨h2, _⟩ | ⟨g', cap', cur, hv, hb, hh, _⟩
    · simp at h2
    simp only [Value.slice.injEq, Option.some.injEq, Addr.mk.injEq, and_true] at hv
    obtain ⟨rfl, _⟩ := hv
    exact fun o => Blk.free (show Blk w g cur _ from hh) o
  clear h hi hj
  obtain ⟨an, at', ad, ac⟩ := a
  obtain ⟨bn, bt, bd, bc⟩ := b
  simp only at a0 a1 a2 a3 b0 b1 b2 b3
  have hf0 := hfz (i * 4)
  have hf1 := hfz (i * 4 + 1)
  have hf2 := hfz (i * 4 + 2)
  have hf3 := hfz (i * 4 + 3)
  have hg0 := hfz (j * 4)
  have hg1 := hfz (j * 4 + 1)
  have hg2 := hfz (j * 4 + 2)
  have hg3 := hfz (j * 4 + 3)
  clear hfz
  by_cases hij : i = j
  · subst hij
    go_enter Try.func108, Try.ntmps108
    apply wp_once
    case h =>
      go_region
      all_goals exact ⟨rfl, rfl⟩
    go_end0
    have hab : (⟨an, at', ad, ac⟩ : Jb) = ⟨bn, bt, bd, bc⟩ := by
      have := HI.out.symm.trans HJ.out
      simpa using this
    have h1 := (HH.out.put hn hil ⟨an, at', ad, ac⟩)
    have h2 := h1.put (by simp [hn]) (i := i) (by simpa using hil) ⟨an, at', ad, ac⟩
    have h3 := h2.drew
    have h4 := (((Fr.refl (fun k => k = g) w).put g i ⟨an, at', ad, ac⟩ rfl).put g i ⟨an, at', ad, ac⟩ rfl).drew
    simp only [put4] at h3 h4
    refine ⟨rfl, ?_, h4⟩
    rw [swp_eq HI.out HI.out]
    exact h3
  · have n01 : ¬ (i * 4 + 1 = j * 4) := by omega
    have n02 : ¬ (i * 4 + 2 = j * 4) := by omega
    have n03 : ¬ (i * 4 + 3 = j * 4) := by omega
    have n10 : ¬ (i * 4 = j * 4 + 1) := by omega
    have n12 : ¬ (i * 4 + 2 = j * 4 + 1) := by omega
    have n13 : ¬ (i * 4 + 3 = j * 4 + 1) := by omega
    have n20 : ¬ (i * 4 = j * 4 + 2) := by omega
    have n21 : ¬ (i * 4 + 1 = j * 4 + 2) := by omega
    have n23 : ¬ (i * 4 + 3 = j * 4 + 2) := by omega
    have n30 : ¬ (i * 4 = j * 4 + 3) := by omega
    have n31 : ¬ (i * 4 + 1 = j * 4 + 3) := by omega
    have n32 : ¬ (i * 4 + 2 = j * 4 + 3) := by omega
    go_enter Try.func108, Try.ntmps108
    apply wp_once
    case h =>
      go_region
      all_goals exact ⟨rfl, rfl⟩
    go_end0
    have h1 := (HH.out.put hn hil ⟨bn, bt, bd, bc⟩)
    have h2 := h1.put (by simp [hn]) (i := j) (by simpa using hjl) ⟨an, at', ad, ac⟩
    have h3 := h2.drew
    have h4 := (((Fr.refl (fun k => k = g) w).put g i ⟨bn, bt, bd, bc⟩ rfl).put g j ⟨an, at', ad, ac⟩ rfl).drew
    simp only [put4] at h3 h4
    refine ⟨rfl, ?_, h4⟩
    rw [swp_eq HI.out HJ.out]
    exact h3

end Go.Proofs.Ythloffgebebijaa
