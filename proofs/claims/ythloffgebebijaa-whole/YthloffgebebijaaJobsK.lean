/- JobsA: the walks of package jobs' list of jobs by deadline: Len, Less, Swap, as a row of the executive's own. -/
import Derived.Test.YthloffgebebijaaPlainA
import Derived.Test.YthloffgebebijaaFram
import Derived.Test.YthloffgebebijaaRows
import Derived.Deep.QuietTactic
import Derived.BigQuiet
import Derived.WalkSmall
import Derived.KernelRfl
import Derived.Deep.RegionLaw
import Derived.Deep.RegionLawGrows
import Derived.Deep.RegionWith
namespace Go.Proofs.Ythloffgebebijaa
open Go.RowKit

/-- A row of the call's own behind a store into it. -/
theorem ownsRow_set {w : World} {base g cap n size : Nat} {e : TypeId} {xs : List Value} (h : w.ownsRow base e size (.slice (some ⟨g, 0, none⟩) n cap) n xs) (o : Nat) (u : Value) :
    (w.setCell ⟨g, o, none⟩ u).ownsRow base e size (.slice (some ⟨g, 0, none⟩) n cap) n (xs.set o u) := by
  obtain ⟨h1, h2⟩ := h
  refine ⟨by simpa using h1, .inr ?_⟩
  rcases h2 with ⟨h2, _⟩ | ⟨g', cap', cur, hv, hb, hh, hn, hc, hs, ht⟩
  · simp at h2
  simp only [Value.slice.injEq, Option.some.injEq, Addr.mk.injEq, true_and, and_true] at hv
  obtain ⟨rfl, rfl⟩ := hv
  refine ⟨g, cap, cur.setIfInBounds o u, rfl, hb, (Blk.set (show Blk w g cur e from hh) o u), hn, hc, by simpa using hs, ?_⟩
  rw [Array.toList_setIfInBounds, List.take_set, ht]
/-- The same row, shorter. -/
theorem ownsRow_take {w : World} {base g cap n m size : Nat} {e : TypeId} {xs : List Value} (h : w.ownsRow base e size (.slice (some ⟨g, 0, none⟩) n cap) n xs) (hm : m ≤ n) :
    w.ownsRow base e size (.slice (some ⟨g, 0, none⟩) m cap) m (xs.take (m * size)) := by
  obtain ⟨h1, h2⟩ := h
  have hmn : m * size ≤ n * size := Nat.mul_le_mul_right _ hm
  refine ⟨by rw [List.length_take, h1]; omega, .inr ?_⟩
  rcases h2 with ⟨h2, _⟩ | ⟨g', cap', cur, hv, hb, hh, hn, hc, hs, ht⟩
  · simp at h2
  simp only [Value.slice.injEq, Option.some.injEq, Addr.mk.injEq, true_and, and_true] at hv
  obtain ⟨rfl, rfl⟩ := hv
  exact ⟨g, cap, cur, rfl, hb, hh, by omega, hc, hs, by rw [← ht, List.take_take, Nat.min_eq_left hmn]⟩
theorem ownsRow_same {w w' : World} {base n size : Nat} {e : TypeId} {v : Value} {xs : List Value} (h : w.ownsRow base e size v n xs) (hs : ∀ k, v.ownBlock = some k → w'.heap[k]? = w.heap[k]?) : w'.ownsRow base e size v n xs := by
  obtain ⟨h1, h2⟩ := h
  refine ⟨h1, h2.imp id ?_⟩
  rintro ⟨g, cap, cur, rfl, hg, hh, r⟩
  exact ⟨g, cap, cur, rfl, hg, (hs g rfl).trans hh, r⟩
theorem ownsRow_lt {w : World} {base n size : Nat} {e : TypeId} {v : Value} {xs : List Value} (h : w.ownsRow base e size v n xs) {k : Nat} (hk : v.ownBlock = some k) : base ≤ k ∧ k < w.heap.size := by
  obtain ⟨h1, h2⟩ := h
  rcases h2 with ⟨rfl, _⟩ | ⟨g, cap, cur, rfl, hg, hh, _⟩
  · simp [Value.ownBlock] at hk
  · simp only [Value.ownBlock, Option.some.injEq] at hk
    subst hk
    exact ⟨hg, lt_of_block hh⟩
theorem ownsRow_slice {w : World} {base n size : Nat} {e : TypeId} {v : Value} {xs : List Value} (h : w.ownsRow base e size v n xs) : ∃ a cap, v = .slice a n cap := by
  obtain ⟨h1, h2⟩ := h
  rcases h2 with ⟨rfl, rfl⟩ | ⟨g, cap, cur, rfl, _⟩
  · exact ⟨none, 0, rfl⟩
  · exact ⟨_, _, rfl⟩
theorem ownsRow_some {w : World} {base n size : Nat} {e : TypeId} {v : Value} {xs : List Value} (h : w.ownsRow base e size v n xs) (hn : 0 < n) : ∃ g cap, v = .slice (some ⟨g, 0, none⟩) n cap ∧ n ≤ cap ∧ cap ≤ maxLen := by
  obtain ⟨h1, h2⟩ := h
  rcases h2 with ⟨rfl, rfl⟩ | ⟨g, cap, cur, rfl, _, _, h3, h4, _⟩
  · omega
  · exact ⟨_, _, rfl, h3, h4⟩

/-- A job's four cells, as the program keeps them. -/
def jobCells (j : Jb) : List Value := [.int .i64 j.number, .int .i64 j.task, .int .i64 j.cost, .int .i64 j.deadline]
def jrow (hs : List Jb) : List Value := (hs.map jobCells).flatten
theorem jrow_four (hs : List Jb) : ∀ c ∈ hs.map jobCells, c.length = 4 := by
  intro c hc
  obtain ⟨j, _, rfl⟩ := List.mem_map.1 hc
  rfl
theorem jrow_length (hs : List Jb) : (jrow hs).length = hs.length * 4 := by rw [jrow, flatten_len (jrow_four hs), List.length_map]
theorem jrow_get {hs : List Jb} {i : Nat} {j : Jb} (h : hs[i]? = some j) (k : Nat) (hk : k < 4) : (jrow hs)[i * 4 + k]? = (jobCells j)[k]? := by
  rw [jrow, flatten_get (jrow_four hs) i k hk, List.getElem?_map, h]
  rfl
theorem jrow_append (a b : List Jb) : jrow (a ++ b) = jrow a ++ jrow b := by simp [jrow]
theorem jrow_take (hs : List Jb) (m : Nat) : (jrow hs).take (m * 4) = jrow (hs.take m) := by
  induction hs generalizing m with
  | nil => simp [jrow]
  | cons j hs ih =>
    cases m with
    | zero => simp [jrow]
    | succ m =>
      have e : jrow (j :: hs) = jobCells j ++ jrow hs := rfl
      rw [List.take_succ_cons, e, List.take_append, List.take_of_length_le (by simp [jobCells]; omega)]
      rw [show (m + 1) * 4 - (jobCells j).length = m * 4 from by simp [jobCells]; omega, ih]
      rfl
theorem jrow_set {hs : List Jb} {i : Nat} {j : Jb} (hi : i < hs.length) : jrow (hs.set i j) = ((((jrow hs).set (i * 4) (.int .i64 j.number)).set (i * 4 + 1) (.int .i64 j.task)).set (i * 4 + 2) (.int .i64 j.cost)).set (i * 4 + 3) (.int .i64 j.deadline) := by
  induction hs generalizing i with
  | nil => simp at hi
  | cons h hs ih =>
    cases i with
    | zero => simp [jrow, jobCells]
    | succ i =>
      have e : ∀ (x : Jb) l, jrow (x :: l) = jobCells x ++ jrow l := fun _ _ => rfl
      rw [List.set_cons_succ, e, e, ih (by simpa using hi)]
      simp only [jobCells, List.cons_append, List.nil_append, show (i + 1) * 4 = i * 4 + 4 from by omega, show i * 4 + 4 + 1 = i * 4 + 1 + 4 from by omega, show i * 4 + 4 + 2 = i * 4 + 2 + 4 from by omega, show i * 4 + 4 + 3 = i * 4 + 3 + 4 from by omega, List.set_cons_succ]

/-- A row of jobs of the executive's own. -/
def JobsP (w : World) (base : Nat) (v : Value) (hs : List Jb) : Prop := w.ownsRow base 151 4 v hs.length (jrow hs)

theorem JobsP.cell {w : World} {base g cap n : Nat} {hs : List Jb} (h : JobsP w base (.slice (some ⟨g, 0, none⟩) n cap) hs) {i : Nat} {j : Jb} (hi : hs[i]? = some j) :
    w.cell? ⟨g, i * 4, none⟩ = some (.int .i64 j.number) ∧ w.cell? ⟨g, i * 4 + 1, none⟩ = some (.int .i64 j.task) ∧ w.cell? ⟨g, i * 4 + 2, none⟩ = some (.int .i64 j.cost) ∧ w.cell? ⟨g, i * 4 + 3, none⟩ = some (.int .i64 j.deadline) := by
  have hc : ∀ k u, (jrow hs)[k]? = some u → w.cell? ⟨g, k, none⟩ = some u := fun k u hu => by
    have := World.ownsRow.cells (g := g) h (by rfl) k u hu
    rw [Addr.add] at this
    split at this
    · rename_i h0; subst h0; exact this
    · simpa using this
  exact ⟨hc _ _ ((jrow_get hi 0 (by omega)).trans rfl), hc _ _ ((jrow_get hi 1 (by omega)).trans rfl), hc _ _ ((jrow_get hi 2 (by omega)).trans rfl), hc _ _ ((jrow_get hi 3 (by omega)).trans rfl)⟩

set_option maxRecDepth 100000 in
set_option maxHeartbeats 400000 in
theorem pLess_any (base g cap n i j : Nat) (hs : List Jb) (a b : Jb) (w : World) (h : JobsP w base (.slice (some ⟨g, 0, none⟩) n cap) hs) (hn : hs.length = n) (hi : hs[i]? = some a) (hj : hs[j]? = some b) :
    Calls Try.prog 107 #[.slice (some ⟨g, 0, none⟩) n cap, .int .i64 i, .int .i64 j] w fun e w' => e = .returned (.bool (jbBefore a b)) ∧ Below w.heap.size w w' := by
  obtain ⟨a0, a1, a2, a3⟩ := h.cell hi
  obtain ⟨b0, b1, b2, b3⟩ := h.cell hj
  have hil := lt_of_get hi
  have hjl := lt_of_get hj
  have hii : (i : Int) < (n : Int) := by omega
  have hjj : (j : Int) < (n : Int) := by omega
  clear h hi hj
  obtain ⟨an, at', ad, ac⟩ := a
  obtain ⟨bn, bt, bd, bc⟩ := b
  simp only at a0 a1 a2 a3 b0 b1 b2 b3
  by_cases he : ad = bd
  · have HE : (ad != bd) = false := by simp [he]
    have HR : Hid (jbBefore ⟨an, at', ad, ac⟩ ⟨bn, bt, bd, bc⟩ = decide (an < bn)) := by simp [Hid, jbBefore, he]
    go_enter Try.func107, Try.ntmps107
    go_wp2_with fail
    go_quiet ((fail))
    go_wp2_with fail
    go_quiet ((fail))
    go_wp2
    go_ret
    exact ⟨ret_bool HR.out.symm, below_drewN (below_drewN (Below.refl _ _) _) _⟩
  · have HE : (ad != bd) = true := by simp [he]
    have HR : Hid (jbBefore ⟨an, at', ad, ac⟩ ⟨bn, bt, bd, bc⟩ = decide (ad < bd)) := by simp [Hid, jbBefore, he]
    go_enter Try.func107, Try.ntmps107
    go_wp2_with fail
    go_quiet ((fail))
    go_wp2_with fail
    go_quiet ((fail))
    go_wp2
    go_ret
    exact ⟨ret_bool HR.out.symm, below_drewN (below_drewN (Below.refl _ _) _) _⟩

/-- A job is laid at a place of the row. -/
def put4 (w : World) (g i : Nat) (j : Jb) : World := (((w.setCell ⟨g, i * 4, none⟩ (.int .i64 j.number)).setCell ⟨g, i * 4 + 1, none⟩ (.int .i64 j.task)).setCell ⟨g, i * 4 + 2, none⟩ (.int .i64 j.cost)).setCell ⟨g, i * 4 + 3, none⟩ (.int .i64 j.deadline)
theorem JobsP.put {w : World} {base g cap n : Nat} {hs : List Jb} (h : JobsP w base (.slice (some ⟨g, 0, none⟩) n cap) hs) (hn : hs.length = n) {i : Nat} (hi : i < hs.length) (j : Jb) : JobsP (put4 w g i j) base (.slice (some ⟨g, 0, none⟩) n cap) (hs.set i j) := by
  subst hn
  have := ownsRow_set (ownsRow_set (ownsRow_set (ownsRow_set h (i * 4) (.int .i64 j.number)) (i * 4 + 1) (.int .i64 j.task)) (i * 4 + 2) (.int .i64 j.cost)) (i * 4 + 3) (.int .i64 j.deadline)
  rw [← jrow_set hi] at this
  unfold JobsP
  rw [List.length_set]
  exact this
theorem JobsP.same {w w' : World} {base : Nat} {v : Value} {hs : List Jb} (h : JobsP w base v hs) (hs' : ∀ k, v.ownBlock = some k → w'.heap[k]? = w.heap[k]?) : JobsP w' base v hs := ownsRow_same h hs'
theorem JobsP.later {w w' : World} {base : Nat} {v : Value} {hs : List Jb} (h : JobsP w base v hs) (hb : Below w.heap.size w w') : JobsP w' base v hs := ownsRow_same h fun k hk => hb.block k (ownsRow_lt h hk).2
theorem JobsP.drew {w : World} {base : Nat} {v : Value} {hs : List Jb} (h : JobsP w base v hs) : JobsP w.drew base v hs := h
theorem Fr.put {X : Nat → Prop} {w w' : World} (h : Fr X w w') (g i : Nat) (j : Jb) (hX : X g) : Fr X w (put4 w' g i j) :=
  (((h.trans (Fr.set (X := X) _ g _ _ hX) fun _ _ x => x).trans (Fr.set (X := X) _ g _ _ hX) fun _ _ x => x).trans (Fr.set (X := X) _ g _ _ hX) fun _ _ x => x).trans (Fr.set (X := X) _ g _ _ hX) fun _ _ x => x

set_option maxRecDepth 100000 in
set_option maxHeartbeats 1600000 in
theorem pSwap_any (base g cap n i j : Nat) (hs : List Jb) (a b : Jb) (w : World) (h : JobsP w base (.slice (some ⟨g, 0, none⟩) n cap) hs) (hn : hs.length = n) (hi : hs[i]? = some a) (hj : hs[j]? = some b) :
    Calls Try.prog 108 #[.slice (some ⟨g, 0, none⟩) n cap, .int .i64 i, .int .i64 j] w fun e w' => e = .returned (.tuple #[]) ∧ JobsP w' base (.slice (some ⟨g, 0, none⟩) n cap) (swp hs i j) ∧ Fr (fun k => k = g) w w' := by
  obtain ⟨a0, a1, a2, a3⟩ := h.cell hi
  obtain ⟨b0, b1, b2, b3⟩ := h.cell hj
  have HH := hide h
  have HI := hide hi
  have HJ := hide hj
  have hil := lt_of_get hi
  have hjl := lt_of_get hj
  have hii : (i : Int) < (n : Int) := by omega
  have hjj : (j : Int) < (n : Int) := by omega
  have hfz : ∀ o, w.frozen? ⟨g, o, none⟩ = false := by
    rcases h.2 with ⟨h2, _⟩ | ⟨g', cap', cur, hv, hb, hh, _⟩
    · simp at h2
    simp only [Value.slice.injEq, Option.some.injEq, Addr.mk.injEq, and_true] at hv
    obtain ⟨rfl, _⟩ := hv
    exact fun o => Blk.free (show Blk w g cur _ from hh) o
  clear h hi hj
  obtain ⟨an, at', ad, ac⟩ := a
  obtain ⟨bn, bt, bd, bc⟩ := b
  simp only at a0 a1 a2 a3 b0 b1 b2 b3
  have hf0 := hfz (i * 4)
  have hf1 := hfz (i * 4 + 1)
  have hf2 := hfz (i * 4 + 2)
  have hf3 := hfz (i * 4 + 3)
  have hg0 := hfz (j * 4)
  have hg1 := hfz (j * 4 + 1)
  have hg2 := hfz (j * 4 + 2)
  have hg3 := hfz (j * 4 + 3)
  clear hfz
  by_cases hij : i = j
  · subst hij
    go_enter Try.func108, Try.ntmps108
    apply wp_once
    case h =>
      go_region
      all_goals exact ⟨rfl, rfl⟩
    go_end0
    have hab : (⟨an, at', ad, ac⟩ : Jb) = ⟨bn, bt, bd, bc⟩ := by
      have := HI.out.symm.trans HJ.out
      simpa using this
    have h1 := (HH.out.put hn hil ⟨an, at', ad, ac⟩)
    have h2 := h1.put (by simp [hn]) (i := i) (by simpa using hil) ⟨an, at', ad, ac⟩
    have h3 := h2.drew
    have h4 := (((Fr.refl (fun k => k = g) w).put g i ⟨an, at', ad, ac⟩ rfl).put g i ⟨an, at', ad, ac⟩ rfl).drew
    simp only [put4] at h3 h4
    refine ⟨rfl, ?_, h4⟩
    rw [swp_eq HI.out HI.out]
    exact h3
  · have n01 : ¬ (i * 4 + 1 = j * 4) := by omega
    have n02 : ¬ (i * 4 + 2 = j * 4) := by omega
    have n03 : ¬ (i * 4 + 3 = j * 4) := by omega
    have n10 : ¬ (i * 4 = j * 4 + 1) := by omega
    have n12 : ¬ (i * 4 + 2 = j * 4 + 1) := by omega
    have n13 : ¬ (i * 4 + 3 = j * 4 + 1) := by omega
    have n20 : ¬ (i * 4 = j * 4 + 2) := by omega
    have n21 : ¬ (i * 4 + 1 = j * 4 + 2) := by omega
    have n23 : ¬ (i * 4 + 3 = j * 4 + 2) := by omega
    have n30 : ¬ (i * 4 = j * 4 + 3) := by omega
    have n31 : ¬ (i * 4 + 1 = j * 4 + 3) := by omega
    have n32 : ¬ (i * 4 + 2 = j * 4 + 3) := by omega
    go_enter Try.func108, Try.ntmps108
    apply wp_once
    case h =>
      go_region
      all_goals exact ⟨rfl, rfl⟩
    go_end0
    have h1 := (HH.out.put hn hil ⟨bn, bt, bd, bc⟩)
    have h2 := h1.put (by simp [hn]) (i := j) (by simpa using hjl) ⟨an, at', ad, ac⟩
    have h3 := h2.drew
    have h4 := (((Fr.refl (fun k => k = g) w).put g i ⟨bn, bt, bd, bc⟩ rfl).put g j ⟨an, at', ad, ac⟩ rfl).drew
    simp only [put4] at h3 h4
    refine ⟨rfl, ?_, h4⟩
    rw [swp_eq HI.out HJ.out]
    exact h3

end Go.Proofs.Ythloffgebebijaa

/- JobsB: the walks of container/heap's up and down over package jobs' list. -/
namespace Go.Proofs.Ythloffgebebijaa
open Go.RowKit

theorem run_wrapNil {P : Program} (ts : Array TypeId) (t : TypeId) (a : Addr) (x y : String) (w : World) : (Builtin.ssaWrapNilChk_ ts t #[.pointer (some a), strVal x, strVal y]).run P w = .ok (.pointer (some a)) w := rfl
/-- A method with a value for its receiver, called through an interface that holds a pointer. -/
theorem meth_value {P : Program} {t e : TypeId} {f : FuncId} {name : String} {K : Nat} (hx : ((P.info? t).bind fun i => i.methods.find? fun x => x.name == name).map (fun m => (m.path, m.func)) = some (#[], some (f, false)))
    (hu : P.underlying t = some (.pointer e)) {d' : TypeId} (he : P.underlying e = some (.slice d')) (w : World) (a : Addr) (v : Value) (hc : w.cell? a = some v) : (method (K + 1) t (.pointer (some a)) name).run P w = .ok (f, v) w := by
  cases hi : P.info? t with
  | none => simp [hi] at hx
  | some i =>
    rw [hi, Option.bind_some] at hx
    cases hm : i.methods.find? fun x => x.name == name with
    | none => simp [hm] at hx
    | some m =>
      simp only [hm, Option.map_some, Option.some.injEq, Prod.mk.injEq] at hx
      rw [method]
      simp [typeInfo, hi, hm, hx.1, hx.2, follow, receiverAt, run_underlying hu, run_underlying he, Place.get, run_wrapNil, loadVar, isAgg, hc, asAddr]

theorem meth_less (w : World) (a : Addr) (v : Value) (hc : w.cell? a = some v) : (method 283 159 (.pointer (some a)) "Less").run Try.prog w = .ok (107, v) w :=
  meth_value (by kernel_rfl) Try.underlying159 Try.underlying92 w a v hc
theorem meth_swap (w : World) (a : Addr) (v : Value) (hc : w.cell? a = some v) : (method 283 159 (.pointer (some a)) "Swap").run Try.prog w = .ok (108, v) w :=
  meth_value (by kernel_rfl) Try.underlying159 Try.underlying92 w a v hc
theorem meth_len (w : World) (a : Addr) (v : Value) (hc : w.cell? a = some v) : (method 283 159 (.pointer (some a)) "Len").run Try.prog w = .ok (106, v) w :=
  meth_value (by kernel_rfl) Try.underlying159 Try.underlying92 w a v hc
theorem meth_push (w : World) (a : Addr) : (method 283 159 (.pointer (some a)) "Push").run Try.prog w = .ok (110, .pointer (some a)) w := by kernel_rfl
theorem meth_pop (w : World) (a : Addr) : (method 283 159 (.pointer (some a)) "Pop").run Try.prog w = .ok (109, .pointer (some a)) w := by kernel_rfl

set_option maxRecDepth 100000 in
set_option maxHeartbeats 1600000 in
theorem up_any (base X o g cap n j : Nat) (hs : List Jb) (w : World) (hc : w.cell? ⟨X, o, none⟩ = some (.slice (some ⟨g, 0, none⟩) n cap)) (h : JobsP w base (.slice (some ⟨g, 0, none⟩) n cap) hs) (hn : hs.length = n) (hX : X ≠ g) (hXs : X < w.heap.size) (hlen : n ≤ 1000000) (hj : j < n) (hu : UpI hs n j) :
    Calls Try.prog 89 #[.iface 159 (.pointer (some ⟨X, o, none⟩)), .int .i64 j] w fun e w' => e = .returned (.tuple #[]) ∧ ∃ hs', JobsP w' base (.slice (some ⟨g, 0, none⟩) n cap) hs' ∧ hs'.Perm hs ∧ Heapy hs' n ∧ Fr (fun k => k = g) w w' := by
  have HU := hide hu
  have HJ := hide h
  clear hu h
  go_enter Try.func89, Try.ntmps89
  go_wp2_with fail
  go_loopw [1] (fun jv wr => ∃ (q : Nat) (hs' : List Jb), jv = .int .i64 q ∧ q < n ∧ JobsP wr base (.slice (some ⟨g, 0, none⟩) n cap) hs' ∧ hs'.Perm hs ∧ UpI hs' n q ∧ Fr (fun k => k = g) w wr) (fun jv _ => (intOf jv).toNat)
  case atStart => exact ⟨j, hs, rfl, hj, HJ.out, List.Perm.refl _, HU.out, Fr.refl _ _⟩
  case round =>
    obtain ⟨q, hs', rfl, hq, hJ, hp, hU, hfr⟩ := hrel
    have HJ' := hide hJ
    have HP := hide hp
    have HU' := hide hU
    have HFR := hide hfr
    have hl' : hs'.length = n := hp.length_eq.trans hn
    clear hJ hp hU hfr HJ HU hn
    by_cases h0 : q = 0
    · subst h0
      go_wp2
      go_end0
      exact ⟨rfl, hs', HJ'.out, HP.out, upI_top HU'.out, HFR.out⟩
    · obtain ⟨p, hp2⟩ : ∃ p : Nat, p = (q - 1) / 2 := ⟨_, rfl⟩
      have hdiv : ((q : Int) - 1) / 2 = (p : Int) := by omega
      have hpq : (((q : Int) - 1) / 2 == (q : Int)) = false := by simp; omega
      have HDIV := hide hdiv
      clear hdiv
      obtain ⟨a, ha⟩ := get_of_lt (l := hs') (k := p) (by omega)
      obtain ⟨b, hb⟩ := get_of_lt (l := hs') (k := q) (by omega)
      have hcw : wr.cell? ⟨X, o, none⟩ = some (.slice (some ⟨g, 0, none⟩) n cap) := by
        exact (HFR.out.cell (p := ⟨X, o, none⟩) hXs hX).trans hc
      have hXr : X < wr.heap.size := Nat.lt_of_lt_of_le hXs HFR.out.size
      have hm1 := meth_less wr _ _ hcw
      have HL : Hid (Calls Try.prog 107 #[.slice (some ⟨g, 0, none⟩) n cap, .int .i64 q, .int .i64 (((q : Int) - 1) / 2)] wr fun e w' => e = .returned (.bool (jbBefore b a)) ∧ Below wr.heap.size wr w') := by
        rw [HDIV.out]; exact pLess_any base g cap n q p hs' b a wr HJ'.out hl' hb ha
      have HS : Hid (∀ w2, Below wr.heap.size wr w2 → Calls Try.prog 108 #[.slice (some ⟨g, 0, none⟩) n cap, .int .i64 (((q : Int) - 1) / 2), .int .i64 q] w2 fun e w' => e = .returned (.tuple #[]) ∧ JobsP w' base (.slice (some ⟨g, 0, none⟩) n cap) (swp hs' p q) ∧ Fr (fun k => k = g) w2 w') := by
        intro w2 hb2
        rw [HDIV.out]; exact pSwap_any base g cap n p q hs' a b w2 (HJ'.out.later hb2) hl' ha hb
      have HA := hide ha
      have HB := hide hb
      clear ha hb
      cases hbf : jbBefore b a with
      | false =>
        go_wp2_with (go_at_call 107; refine HL.out.mono ?_; rintro e w2 ⟨he, q2⟩; rw [hbf] at he; subst he; have HQ2 := hide q2; clear q2)
        go_end0
        exact ⟨rfl, hs', HJ'.out.later HQ2.out, HP.out, upI_stop HU'.out (hp2 ▸ HA.out) HB.out hbf, HFR.out.then_below HQ2.out⟩
      | true =>
        go_wp2_with (first
          | (go_at_call 107; refine HL.out.mono ?_; rintro e w2 ⟨he, q2⟩; rw [hbf] at he; subst he; have HQ2 := hide q2; have hm2 := meth_swap w2 ⟨X, o, none⟩ _ ((q2.cell (p := ⟨X, o, none⟩) hXr).trans hcw); clear q2)
          | (go_at_call 108; refine (HS.out w2 HQ2.out).mono ?_; rintro e w3 ⟨rfl, j3, q3⟩; have HJ3 := hide j3; have HQ3 := hide q3; clear j3 q3))
        go_roundw
        case rel =>
          refine ⟨p, swp hs' p q, by rw [HDIV.out], by omega, HJ3.out, (swp_perm _ _ _).trans HP.out, ?_, ((HFR.out.then_below HQ2.out).trans HQ3.out fun _ _ x => x)⟩
          subst hp2
          exact upI_step HU'.out (by omega) hq HA.out HB.out hbf
        case measure => simp [intOf]; omega

end Go.Proofs.Ythloffgebebijaa

/- JobsC: the walk of container/heap's down over package jobs' list. -/
namespace Go.Proofs.Ythloffgebebijaa
open Go.RowKit

set_option maxRecDepth 100000 in
set_option maxHeartbeats 1600000 in
theorem down_any (base X o g cap n m : Nat) (hs : List Jb) (w : World) (hc : w.cell? ⟨X, o, none⟩ = some (.slice (some ⟨g, 0, none⟩) n cap)) (h : JobsP w base (.slice (some ⟨g, 0, none⟩) n cap) hs) (hn : hs.length = n) (hX : X ≠ g) (hXs : X < w.heap.size) (hlen : n ≤ 1000000) (hm : m ≤ n) (hu : DownI hs m 0) :
    Calls Try.prog 88 #[.iface 159 (.pointer (some ⟨X, o, none⟩)), .int .i64 0, .int .i64 m] w fun e w' => (∃ r, e = .returned (.bool r)) ∧ ∃ hs', JobsP w' base (.slice (some ⟨g, 0, none⟩) n cap) hs' ∧ hs'.Perm hs ∧ Heapy hs' m ∧ (∀ k, m ≤ k → hs'[k]? = hs[k]?) ∧ Fr (fun k => k = g) w w' := by
  have HU := hide hu
  have HJ := hide h
  clear hu h
  go_enter Try.func88, Try.ntmps88
  go_wp2_with fail
  go_loopw [7] (fun iv wr => ∃ (q : Nat) (hs' : List Jb), iv = .int .i64 q ∧ q ≤ m ∧ JobsP wr base (.slice (some ⟨g, 0, none⟩) n cap) hs' ∧ hs'.Perm hs ∧ DownI hs' m q ∧ (∀ k, m ≤ k → hs'[k]? = hs[k]?) ∧ Fr (fun k => k = g) w wr) (fun iv _ => m - (intOf iv).toNat)
  case atStart => exact ⟨0, hs, rfl, by omega, HJ.out, List.Perm.refl _, HU.out, fun _ _ => rfl, Fr.refl _ _⟩
  case round =>
    obtain ⟨q, hs', rfl, hq, hJ, hp, hU, hkeep, hfr⟩ := hrel
    have HJ' := hide hJ
    have HP := hide hp
    have HU' := hide hU
    have HK := hide hkeep
    have HFR := hide hfr
    have hl' : hs'.length = n := hp.length_eq.trans hn
    clear hJ hp hU hfr HJ HU hn hkeep
    by_cases h1 : 2 * q + 1 < m
    · have hcw : wr.cell? ⟨X, o, none⟩ = some (.slice (some ⟨g, 0, none⟩) n cap) := (HFR.out.cell (p := ⟨X, o, none⟩) hXs hX).trans hc
      have hXr : X < wr.heap.size := Nat.lt_of_lt_of_le hXs HFR.out.size
      have i1 : ¬ (2 * (q : Int) + 1 ≥ (m : Int)) := by omega
      have i0 : ¬ (2 * (q : Int) + 1 < 0) := by omega
      have hm1 := meth_less wr _ _ hcw
      obtain ⟨a0, ha0⟩ := get_of_lt (l := hs') (k := q) (by omega)
      obtain ⟨a1, ha1⟩ := get_of_lt (l := hs') (k := 2 * q + 1) (by omega)
      have HG0 := hide ha0
      have HG1 := hide ha1
      have HL : Hid (∀ (w2 : World) (x y : Nat) (xi yi : Int) (a b : Jb), Below wr.heap.size wr w2 → hs'[x]? = some a → hs'[y]? = some b → xi = x → yi = y → Calls Try.prog 107 #[.slice (some ⟨g, 0, none⟩) n cap, .int .i64 xi, .int .i64 yi] w2 fun e w' => e = .returned (.bool (jbBefore a b)) ∧ Below wr.heap.size wr w') := by
        intro w2 x y xi yi a b hb2 ha hb rfl rfl
        refine (pLess_any base g cap n x y hs' a b w2 (HJ'.out.later hb2) hl' ha hb).mono ?_
        rintro e w' ⟨rfl, hb'⟩
        exact ⟨rfl, hb2.trans (hb'.mono hb2.size)⟩
      have HS : Hid (∀ (w2 : World) (x y : Nat) (xi yi : Int) (a b : Jb), Below wr.heap.size wr w2 → hs'[x]? = some a → hs'[y]? = some b → xi = x → yi = y → Calls Try.prog 108 #[.slice (some ⟨g, 0, none⟩) n cap, .int .i64 xi, .int .i64 yi] w2 fun e w' => e = .returned (.tuple #[]) ∧ JobsP w' base (.slice (some ⟨g, 0, none⟩) n cap) (swp hs' x y) ∧ Fr (fun k => k = g) w2 w') := by
        intro w2 x y xi yi a b hb2 ha hb rfl rfl
        exact pSwap_any base g cap n x y hs' a b w2 (HJ'.out.later hb2) hl' ha hb
      clear ha0 ha1
      by_cases h2 : 2 * q + 2 < m
      · have i2 : 2 * (q : Int) + 1 + 1 < (m : Int) := by omega
        obtain ⟨a2, ha2⟩ := get_of_lt (l := hs') (k := 2 * q + 2) (by omega)
        have HG2 := hide ha2
        clear ha2
        cases hb2 : jbBefore a2 a1 with
        | true =>
          go_wp2_with fail
          refine (HL.out wr (2 * q + 2) (2 * q + 1) _ _ a2 a1 (Below.refl _ _) HG2.out HG1.out (by omega) (by omega)).mono ?_
          rintro e w2 ⟨he, q2⟩
          rw [hb2] at he
          subst he
          have HQ2 := hide q2
          have hm2 := meth_less w2 ⟨X, o, none⟩ _ ((q2.cell (p := ⟨X, o, none⟩) hXr).trans hcw)
          clear q2
          cases hbf : jbBefore a2 a0 with
          | false =>
            go_wp2_with fail
            refine (HL.out w2 (2 * q + 2) q _ _ a2 a0 HQ2.out HG2.out HG0.out (by omega) rfl).mono ?_
            rintro e w3 ⟨he, q3⟩
            rw [hbf] at he
            subst he
            have HQ3 := hide q3
            clear q3
            go_wp2
            go_ret
            refine ⟨⟨_, rfl⟩, hs', HJ'.out.later HQ3.out, HP.out, downI_stop HU'.out ?_, HK.out, HFR.out.then_below HQ3.out⟩
            intro k x y hk0 hkm hki hx hy
            rw [HG0.out] at hx
            cases hx
            rcases (show k = 2 * q + 1 ∨ k = 2 * q + 2 from by omega) with rfl | rfl
            · rw [HG1.out] at hy; cases hy
              exact jle_trans hbf (jle_of_before hb2)
            · rw [HG2.out] at hy; cases hy
              exact hbf
          | true =>
            go_wp2_with fail
            refine (HL.out w2 (2 * q + 2) q _ _ a2 a0 HQ2.out HG2.out HG0.out (by omega) rfl).mono ?_
            rintro e w3 ⟨he, q3⟩
            rw [hbf] at he
            subst he
            have HQ3 := hide q3
            have hms := meth_swap w3 ⟨X, o, none⟩ _ ((q3.cell (p := ⟨X, o, none⟩) hXr).trans hcw)
            clear q3
            go_wp2_with fail
            refine (HS.out w3 q (2 * q + 2) _ _ a0 a2 HQ3.out HG0.out HG2.out rfl (by omega)).mono ?_
            rintro e w4 ⟨rfl, j4, q4⟩
            have HJ4 := hide j4
            have HQ4 := hide q4
            clear j4 q4
            go_wp2
            go_roundw
            case rel =>
              refine ⟨2 * q + 2, swp hs' q (2 * q + 2), by go_num, by omega, HJ4.out, (swp_perm _ _ _).trans HP.out, downI_step HU'.out (by omega) (by omega) (by omega) HG0.out HG2.out hbf ?_, ?_, (HFR.out.then_below HQ3.out).trans HQ4.out fun _ _ x => x⟩
              · intro k y hk0 hkm hki hy
                rcases (show k = 2 * q + 1 ∨ k = 2 * q + 2 from by omega) with rfl | rfl
                · rw [HG1.out] at hy; cases hy
                  exact jle_of_before hb2
                · rw [HG2.out] at hy; cases hy
                  exact jle_refl _
              · intro k hk
                rw [swp_get HG0.out HG2.out, if_neg (by omega), if_neg (by omega)]
                exact HK.out k hk
            case measure => simp [intOf]; omega
        | false =>
          go_wp2_with fail
          refine (HL.out wr (2 * q + 2) (2 * q + 1) _ _ a2 a1 (Below.refl _ _) HG2.out HG1.out (by omega) (by omega)).mono ?_
          rintro e w2 ⟨he, q2⟩
          rw [hb2] at he
          subst he
          have HQ2 := hide q2
          have hm2 := meth_less w2 ⟨X, o, none⟩ _ ((q2.cell (p := ⟨X, o, none⟩) hXr).trans hcw)
          clear q2
          cases hbf : jbBefore a1 a0 with
          | false =>
            go_wp2_with fail
            refine (HL.out w2 (2 * q + 1) q _ _ a1 a0 HQ2.out HG1.out HG0.out (by omega) rfl).mono ?_
            rintro e w3 ⟨he, q3⟩
            rw [hbf] at he
            subst he
            have HQ3 := hide q3
            clear q3
            go_wp2
            go_ret
            refine ⟨⟨_, rfl⟩, hs', HJ'.out.later HQ3.out, HP.out, downI_stop HU'.out ?_, HK.out, HFR.out.then_below HQ3.out⟩
            intro k x y hk0 hkm hki hx hy
            rw [HG0.out] at hx
            cases hx
            rcases (show k = 2 * q + 1 ∨ k = 2 * q + 2 from by omega) with rfl | rfl
            · rw [HG1.out] at hy; cases hy
              exact hbf
            · rw [HG2.out] at hy; cases hy
              exact jle_trans hbf hb2
          | true =>
            go_wp2_with fail
            refine (HL.out w2 (2 * q + 1) q _ _ a1 a0 HQ2.out HG1.out HG0.out (by omega) rfl).mono ?_
            rintro e w3 ⟨he, q3⟩
            rw [hbf] at he
            subst he
            have HQ3 := hide q3
            have hms := meth_swap w3 ⟨X, o, none⟩ _ ((q3.cell (p := ⟨X, o, none⟩) hXr).trans hcw)
            clear q3
            go_wp2_with fail
            refine (HS.out w3 q (2 * q + 1) _ _ a0 a1 HQ3.out HG0.out HG1.out rfl (by omega)).mono ?_
            rintro e w4 ⟨rfl, j4, q4⟩
            have HJ4 := hide j4
            have HQ4 := hide q4
            clear j4 q4
            go_wp2
            go_roundw
            case rel =>
              refine ⟨2 * q + 1, swp hs' q (2 * q + 1), by go_num, by omega, HJ4.out, (swp_perm _ _ _).trans HP.out, downI_step HU'.out (by omega) (by omega) (by omega) HG0.out HG1.out hbf ?_, ?_, (HFR.out.then_below HQ3.out).trans HQ4.out fun _ _ x => x⟩
              · intro k y hk0 hkm hki hy
                rcases (show k = 2 * q + 1 ∨ k = 2 * q + 2 from by omega) with rfl | rfl
                · rw [HG1.out] at hy; cases hy
                  exact jle_refl _
                · rw [HG2.out] at hy; cases hy
                  exact hb2
              · intro k hk
                rw [swp_get HG0.out HG1.out, if_neg (by omega), if_neg (by omega)]
                exact HK.out k hk
            case measure => simp [intOf]; omega
      · have i2 : ¬ (2 * (q : Int) + 1 + 1 < (m : Int)) := by omega
        cases hbf : jbBefore a1 a0 with
        | false =>
          go_wp2_with fail
          refine (HL.out wr (2 * q + 1) q _ _ a1 a0 (Below.refl _ _) HG1.out HG0.out (by omega) rfl).mono ?_
          rintro e w3 ⟨he, q3⟩
          rw [hbf] at he
          subst he
          have HQ3 := hide q3
          clear q3
          go_wp2
          go_ret
          refine ⟨⟨_, rfl⟩, hs', HJ'.out.later HQ3.out, HP.out, downI_stop HU'.out ?_, HK.out, HFR.out.then_below HQ3.out⟩
          intro k x y hk0 hkm hki hx hy
          rw [HG0.out] at hx
          cases hx
          obtain rfl : k = 2 * q + 1 := by omega
          rw [HG1.out] at hy; cases hy
          exact hbf
        | true =>
          go_wp2_with fail
          refine (HL.out wr (2 * q + 1) q _ _ a1 a0 (Below.refl _ _) HG1.out HG0.out (by omega) rfl).mono ?_
          rintro e w3 ⟨he, q3⟩
          rw [hbf] at he
          subst he
          have HQ3 := hide q3
          have hms := meth_swap w3 ⟨X, o, none⟩ _ ((q3.cell (p := ⟨X, o, none⟩) hXr).trans hcw)
          clear q3
          go_wp2_with fail
          refine (HS.out w3 q (2 * q + 1) _ _ a0 a1 HQ3.out HG0.out HG1.out rfl (by omega)).mono ?_
          rintro e w4 ⟨rfl, j4, q4⟩
          have HJ4 := hide j4
          have HQ4 := hide q4
          clear j4 q4
          go_wp2
          go_roundw
          case rel =>
            refine ⟨2 * q + 1, swp hs' q (2 * q + 1), by go_num, by omega, HJ4.out, (swp_perm _ _ _).trans HP.out, downI_step HU'.out (by omega) (by omega) (by omega) HG0.out HG1.out hbf ?_, ?_, (HFR.out.then_below HQ3.out).trans HQ4.out fun _ _ x => x⟩
            · intro k y hk0 hkm hki hy
              obtain rfl : k = 2 * q + 1 := by omega
              rw [HG1.out] at hy; cases hy
              exact jle_refl _
            · intro k hk
              rw [swp_get HG0.out HG1.out, if_neg (by omega), if_neg (by omega)]
              exact HK.out k hk
          case measure => simp [intOf]; omega
    · have i1 : (m : Int) ≤ 2 * (q : Int) + 1 := by omega
      go_wp2
      go_ret
      exact ⟨⟨_, rfl⟩, hs', HJ'.out, HP.out, downI_stop HU'.out (fun k x y hk0 hkm hki => by omega), HK.out, HFR.out⟩

end Go.Proofs.Ythloffgebebijaa

/- JobsD: the walks of package jobs' Push, Pop, of container/heap's Push, Pop, and of the queue's Put, Take, Len. -/
namespace Go.Proofs.Ythloffgebebijaa
open Go.RowKit

def jobV (j : Jb) : Value := .agg #[.int .i64 j.number, .int .i64 j.task, .int .i64 j.cost, .int .i64 j.deadline]

theorem assert_job (x : Value) (w : World) : (Instr.typeAssert (.iface 151 x) 20 151 false).run Try.prog w = .ok x w := by kernel_rfl
theorem info_job : (Try.prog.info? 151).map (fun i => (i.zero, i.size, i.bytes)) = some (some (.agg #[.int .i64 0, .int .i64 0, .int .i64 0, .int .i64 0]), 4, 32) := by kernel_rfl

set_option maxRecDepth 100000 in
set_option maxHeartbeats 1600000 in
theorem pPush_any (base X o : Nat) (cs : Array Value) (t : TypeId) (v : Value) (hs : List Jb) (j : Jb) (w : World) (hB : Blk w X cs t) (hcs : cs[o]? = some v) (h : JobsP w base v hs) (hX : v.ownBlock ≠ some X) (hlen : hs.length ≤ 1000000) (hbase : base ≤ w.heap.size) :
    Calls Try.prog 110 #[.pointer (some ⟨X, o, none⟩), .iface 151 (jobV j)] w fun e w' => e = .returned (.tuple #[]) ∧ ∃ v', Blk w' X (cs.setIfInBounds o v') t ∧ JobsP w' base v' (hs ++ [j]) ∧ Fr (fun k => k = X ∨ v.ownBlock = some k) w w' ∧ (v'.ownBlock = v.ownBlock ∨ ∃ k, v'.ownBlock = some k ∧ w.heap.size ≤ k) := by
  obtain ⟨va, vc, hve⟩ := ownsRow_slice h
  subst hve
  have c1 : w.cell? ⟨X, o, none⟩ = some (.slice va hs.length vc) := (hB.cell o).trans hcs
  have c1f := hB.free o
  have hXl := hB.lt
  obtain ⟨jn, jt, jd, jc⟩ := j
  have HB := hide hB
  have HJ := hide h
  clear h hB
  have hta := assert_job (.agg #[.int .i64 jn, .int .i64 jt, .int .i64 jc, .int .i64 jd]) w.drew
  simp only [jobV]
  obtain ⟨i0, hi, hz0, hzs, hzb⟩ := info_parts info_job
  have HI := hide (And.intro hi (And.intro hz0 (And.intro hzs hzb)))
  have HO : Hid ((w.alloc (.cells #[.int .i64 jn, .int .i64 jt, .int .i64 jc, .int .i64 jd] 151)).drew.ownsRow base 151 4 (.slice va hs.length vc) hs.length (jrow hs)) := (HJ.out.later ((Below.refl _ _).alloc (Nat.le_refl _) _)).drew
  have HNEW : Hid (∀ (j : Nat) (u : Value), [Value.int .i64 jn, Value.int .i64 jt, Value.int .i64 jc, Value.int .i64 jd][j]? = some u → (w.alloc (.cells #[.int .i64 jn, .int .i64 jt, .int .i64 jc, .int .i64 jd] 151)).drew.cell? ((⟨w.heap.size, 0, none⟩ : Addr).add j) = some u) := by
    intro j u hj
    exact fresh_cells w [Value.int .i64 jn, Value.int .i64 jt, Value.int .i64 jc, Value.int .i64 jd] 151 w.heap.size rfl j u hj
  have HONE : Hid (∀ u ∈ [Value.int .i64 jn, Value.int .i64 jt, Value.int .i64 jc, Value.int .i64 jd], u.oneCell' = true) := by
    intro u hu
    simp at hu
    rcases hu with rfl | rfl | rfl | rfl <;> rfl
  have HBW : Hid (Blk (w.alloc (.cells #[.int .i64 jn, .int .i64 jt, .int .i64 jc, .int .i64 jd] 151)).drew X cs t) := (HB.out.alloc _).drew
  clear hi hz0 hzs hzb
  go_enter Try.func110, Try.ntmps110
  go_wp2_with fail
  apply wp_some3 (fun (xa : Option Addr) (xc : Nat) (w4 : World) => w4.ownsRow base 151 4 (.slice xa (hs.length + 1) xc) (hs.length + 1) (jrow hs ++ [Value.int .i64 jn, Value.int .i64 jt, Value.int .i64 jc, Value.int .i64 jd]) ∧ (w.alloc (.cells #[.int .i64 jn, .int .i64 jt, .int .i64 jc, .int .i64 jd] 151)).drew.grownBy w4 (Value.slice va hs.length vc).ownBlock ∧ ((Value.slice xa (hs.length + 1) xc).ownBlock = (Value.slice va hs.length vc).ownBlock ∨ (Value.slice xa (hs.length + 1) xc).ownBlock = some (w.alloc (.cells #[.int .i64 jn, .int .i64 jt, .int .i64 jc, .int .i64 jd] 151)).drew.heap.size))
  case h =>
    go_region_law (first | (refine step_append_own rfl (.tmp 7) (.tmp 10) 92 rfl base 151 i0 (.agg #[.int .i64 0, .int .i64 0, .int .i64 0, .int .i64 0]) 4 32 Try.underlying92 HI.out.1 HI.out.2.1 HI.out.2.2.1 HI.out.2.2.2 rfl (by decide) (.slice va hs.length vc) hs.length (jrow hs) (by simp [Act.eval]) HO.out ⟨w.heap.size, 0, none⟩ 1 1 [Value.int .i64 jn, Value.int .i64 jt, Value.int .i64 jc, Value.int .i64 jd] (by simp [Act.eval]) rfl HNEW.out HONE.out (by decide) (by unfold maxLen; omega) (by omega) (by simp; omega) ?_; intro v1 w4 hown hgrow hat; obtain ⟨xa, xc, rfl⟩ := ownsRow_slice hown; have hbw4 : Blk w4 X cs t := (hgrow.block X (by simp; omega) (fun e => hX e.symm)).trans HBW.out; have d1 : w4.cell? ⟨X, o, none⟩ = some (.slice va hs.length vc) := (hbw4.cell o).trans hcs; have d1f := hbw4.free o; have HOW := hide hown; have HGR := hide hgrow; have HAT := hide hat; clear hown hgrow hat hbw4))
    all_goals exact ⟨xa, xc, w4, ⟨HOW.out, HGR.out, HAT.out⟩, rfl, rfl⟩
  rintro xa xc w4 ⟨how, hgr, hat⟩
  have HOW := hide how; have HGR := hide hgr; have HAT := hide hat
  clear how hgr hat c1 c1f hta
  go_end0
  have hbw4 : Blk w4 X cs t := (HGR.out.block X (by simp; omega) (fun e => hX e.symm)).trans HBW.out
  have hz4 : (w.alloc (.cells #[.int .i64 jn, .int .i64 jt, .int .i64 jc, .int .i64 jd] 151)).drew.heap.size = w.heap.size + 1 := by simp
  have hv4 : (Value.slice xa (hs.length + 1) xc).ownBlock = (Value.slice va hs.length vc).ownBlock ∨ ∃ k, (Value.slice xa (hs.length + 1) xc).ownBlock = some k ∧ w.heap.size ≤ k := HAT.out.imp id fun e => ⟨_, e, by omega⟩
  have hne : ∀ k, (Value.slice xa (hs.length + 1) xc).ownBlock = some k → k ≠ X := by
    rintro k hk rfl
    rcases hv4 with e | ⟨q, e, hq⟩
    · exact hX (e.symm.trans hk)
    · rw [e] at hk; cases hk; omega
  have f1 : Fr (fun k => k = X ∨ (Value.slice va hs.length vc).ownBlock = some k) w (w.alloc (.cells #[.int .i64 jn, .int .i64 jt, .int .i64 jc, .int .i64 jd] 151)).drew := Fr.of_below ((Below.refl _ _).alloc (Nat.le_refl _) _).drew
  have f2 : Fr (fun k => k = X ∨ (Value.slice va hs.length vc).ownBlock = some k) w w4 := f1.trans (Fr.of_grown (X := fun k => k = X ∨ (Value.slice va hs.length vc).ownBlock = some k) HGR.out fun k hk _ => .inr hk) fun _ _ x => x
  refine ⟨rfl, _, hbw4.set o _, ?_, f2.trans (Fr.set (X := fun k => k = X ∨ (Value.slice va hs.length vc).ownBlock = some k) w4 X o _ (.inl rfl)) fun _ _ x => x, hv4⟩
  unfold JobsP
  rw [jrow_append, List.length_append]
  exact ownsRow_same HOW.out fun k hk => heap_setCell_other w4 ⟨X, o, none⟩ k _ (hne k hk)

set_option maxRecDepth 100000 in
set_option maxHeartbeats 1600000 in
theorem pPop_any (base X o n cap g : Nat) (cs : Array Value) (t : TypeId) (hs : List Jb) (j : Jb) (w : World) (hB : Blk w X cs t) (hcs : cs[o]? = some (.slice (some ⟨g, 0, none⟩) (n + 1) cap)) (h : JobsP w base (.slice (some ⟨g, 0, none⟩) (n + 1) cap) hs) (hn : hs.length = n + 1) (hj : hs[n]? = some j) (hX : X ≠ g) (hlen : n ≤ 1000000) :
    Calls Try.prog 109 #[.pointer (some ⟨X, o, none⟩)] w fun e w' => e = .returned (.iface 151 (jobV j)) ∧ Blk w' X (cs.setIfInBounds o (.slice (some ⟨g, 0, none⟩) n cap)) t ∧ JobsP w' base (.slice (some ⟨g, 0, none⟩) n cap) (hs.take n) ∧ Fr (fun k => k = X) w w' := by
  have c1 : w.cell? ⟨X, o, none⟩ = some (.slice (some ⟨g, 0, none⟩) (n + 1) cap) := (hB.cell o).trans hcs
  have c1f := hB.free o
  have hXl := hB.lt
  obtain ⟨a0, a1, a2, a3⟩ := h.cell hj
  obtain ⟨_, hcap⟩ : True ∧ n + 1 ≤ cap := by
    rcases h.2 with ⟨h2, _⟩ | ⟨g', cap', cur, hv, hb, hh, hc, _⟩
    · simp at h2
    · simp at hv
      exact ⟨trivial, by omega⟩
  have HB := hide hB
  have HJ := hide h
  obtain ⟨jn, jt, jd, jc⟩ := j
  simp only at a0 a1 a2 a3
  clear h hB
  simp only [jobV]
  go_enter Try.func109, Try.ntmps109
  go_wp2
  go_ret
  have h1 : Blk ((w.setCell ⟨X, o, none⟩ (.slice (some ⟨g, 0, none⟩) n cap)).alloc (.cells #[.int .i64 jn, .int .i64 jt, .int .i64 jc, .int .i64 jd] 151)) X _ t := (HB.out.set o (.slice (some ⟨g, 0, none⟩) n cap)).alloc _
  have h2 : JobsP ((w.setCell ⟨X, o, none⟩ (.slice (some ⟨g, 0, none⟩) n cap)).alloc (.cells #[.int .i64 jn, .int .i64 jt, .int .i64 jc, .int .i64 jd] 151)) base (.slice (some ⟨g, 0, none⟩) n cap) (hs.take n) := by
    have h3 : JobsP w base (.slice (some ⟨g, 0, none⟩) n cap) (hs.take n) := by
      unfold JobsP
      have h4 : w.ownsRow base 151 4 (.slice (some ⟨g, 0, none⟩) (n + 1) cap) (n + 1) (jrow hs) := hn ▸ HJ.out
      have := ownsRow_take h4 (Nat.le_succ n)
      rw [jrow_take] at this
      rw [List.length_take, hn, Nat.min_eq_left (Nat.le_succ n)]
      exact this
    have h5 : JobsP (w.setCell ⟨X, o, none⟩ (.slice (some ⟨g, 0, none⟩) n cap)) base (.slice (some ⟨g, 0, none⟩) n cap) (hs.take n) := h3.same fun k hk => heap_setCell_other w ⟨X, o, none⟩ k _ (by simp only [Value.ownBlock, Option.some.injEq] at hk; subst hk; exact fun e => hX e.symm)
    exact h5.later ((Below.refl _ _).alloc (Nat.le_refl _) _)
  exact ⟨rfl, h1, h2, (Fr.set (X := fun k => k = X) w X o _ rfl).then_below ((Below.refl _ _).alloc (Nat.le_refl _) _)⟩

theorem pLen_any (a : Option Addr) (n c : Nat) (w : World) : Calls Try.prog 106 #[.slice a n c] w fun e w' => e = .returned (.int .i64 n) ∧ w' = w := by
  go_enter Try.func106, Try.ntmps106
  go_wp2
  go_ret
  exact ⟨rfl, rfl⟩

set_option maxRecDepth 100000 in
set_option maxHeartbeats 1600000 in
theorem hPush_any (base X o : Nat) (cs : Array Value) (t : TypeId) (v : Value) (hs : List Jb) (j : Jb) (w : World) (hB : Blk w X cs t) (hcs : cs[o]? = some v) (h : JobsP w base v hs) (hX : v.ownBlock ≠ some X) (hH : Heapy hs hs.length) (hlen : hs.length ≤ 900000) (hbase : base ≤ w.heap.size) :
    Calls Try.prog 87 #[.iface 159 (.pointer (some ⟨X, o, none⟩)), .iface 151 (jobV j)] w fun e w' => e = .returned (.tuple #[]) ∧ ∃ v' hs', Blk w' X (cs.setIfInBounds o v') t ∧ JobsP w' base v' hs' ∧ hs'.Perm (hs ++ [j]) ∧ Heapy hs' hs'.length ∧ Fr (fun k => k = X ∨ v.ownBlock = some k) w w' ∧ (v'.ownBlock = v.ownBlock ∨ ∃ k, v'.ownBlock = some k ∧ w.heap.size ≤ k) := by
  have hXl := hB.lt
  have ho : o < cs.size := by
    rcases Nat.lt_or_ge o cs.size with h | h
    · exact h
    · rw [Array.getElem?_eq_none h] at hcs; cases hcs
  have HP := hide (pPush_any base X o cs t v hs j w hB hcs h hX (by omega) hbase)
  have HH := hide hH
  have hm0 := meth_push w ⟨X, o, none⟩
  clear hB h hH
  go_enter Try.func87, Try.ntmps87
  go_wp2_with fail
  refine HP.out.mono ?_
  rintro e w1 ⟨rfl, v1, b1, j1, f1, o1⟩
  obtain ⟨g, cap, rfl, hc1, hc2⟩ := ownsRow_some j1 (by simp)
  have hc : w1.cell? ⟨X, o, none⟩ = some (.slice (some ⟨g, 0, none⟩) (hs ++ [j]).length cap) := (b1.cell o).trans (by simp [ho])
  have hgX : X ≠ g := by
    rintro rfl
    rcases o1 with e | ⟨k, e, hk⟩
    · exact hX e.symm
    · simp only [Value.ownBlock, Option.some.injEq] at e; omega
  have HUP := hide (up_any base X o g cap (hs ++ [j]).length hs.length (hs ++ [j]) w1 hc j1 rfl hgX b1.lt (by simp; omega) (by simp) (by rw [List.length_append]; exact upI_new HH.out))
  have hlen1 : (hs ++ [j]).length = hs.length + 1 := by simp
  have HB1 := hide b1
  have HF1 := hide f1
  have HO1 := hide o1
  have hm1 := meth_len w1 _ _ hc
  clear b1 j1 f1 o1
  rw [hlen1] at hm1 hc HUP
  go_wp2_with fail
  refine (pLen_any _ _ _ w1).mono ?_
  rintro e w2 ⟨rfl, rfl⟩
  go_wp2_with fail
  refine HUP.out.mono ?_
  rintro e w3 ⟨rfl, hs', j3, p3, h3, f3⟩
  have HF3 : Hid (∃ v' hs', Blk w3 X (cs.setIfInBounds o v') t ∧ JobsP w3 base v' hs' ∧ hs'.Perm (hs ++ [j]) ∧ Heapy hs' hs'.length ∧ Fr (fun k => k = X ∨ v.ownBlock = some k) w w3 ∧ (v'.ownBlock = v.ownBlock ∨ ∃ k, v'.ownBlock = some k ∧ w.heap.size ≤ k)) := by
    refine ⟨_, hs', (f3.block X HB1.out.lt hgX).trans HB1.out, by rw [hlen1]; exact j3, p3, ?_, HF1.out.trans f3 ?_, HO1.out⟩
    · rw [p3.length_eq, hlen1]; exact h3
    · rintro q hq rfl
      rcases HO1.out with e | ⟨k, e, hk⟩
      · exact .inr e.symm
      · simp only [Value.ownBlock, Option.some.injEq] at e; omega
  clear j3 p3 h3 f3
  go_wp2
  go_end0
  exact ⟨rfl, HF3.out⟩

set_option maxRecDepth 100000 in
set_option maxHeartbeats 1600000 in
/-- The job that must be done first is taken out. -/
theorem hPop_any (base X o n cap g : Nat) (cs : Array Value) (t : TypeId) (hs : List Jb) (w : World) (hB : Blk w X cs t) (hcs : cs[o]? = some (.slice (some ⟨g, 0, none⟩) (n + 1) cap)) (h : JobsP w base (.slice (some ⟨g, 0, none⟩) (n + 1) cap) hs) (hn : hs.length = n + 1) (hX : X ≠ g) (hH : Heapy hs hs.length) (hlen : n ≤ 900000) :
    Calls Try.prog 86 #[.iface 159 (.pointer (some ⟨X, o, none⟩))] w fun e w' => ∃ j hs', e = .returned (.iface 151 (jobV j)) ∧ Blk w' X (cs.setIfInBounds o (.slice (some ⟨g, 0, none⟩) n cap)) t ∧ JobsP w' base (.slice (some ⟨g, 0, none⟩) n cap) hs' ∧ (j :: hs').Perm hs ∧ (∀ b ∈ hs, jle j b) ∧ Heapy hs' hs'.length ∧ Fr (fun k => k = X ∨ k = g) w w' := by
  have hXl := hB.lt
  obtain ⟨a0, ha0⟩ := get_of_lt (l := hs) (k := 0) (by omega)
  obtain ⟨an, han⟩ := get_of_lt (l := hs) (k := n) (by omega)
  have hc : w.cell? ⟨X, o, none⟩ = some (.slice (some ⟨g, 0, none⟩) (n + 1) cap) := (hB.cell o).trans hcs
  have hm0 := meth_len w _ _ hc
  have hm1 := meth_swap w _ _ hc
  have HSW : Hid (Calls Try.prog 108 #[.slice (some ⟨g, 0, none⟩) (n + 1) cap, .int .i64 0, .int .i64 n] w fun e w' => e = .returned (.tuple #[]) ∧ JobsP w' base (.slice (some ⟨g, 0, none⟩) (n + 1) cap) (swp hs 0 n) ∧ Fr (fun k => k = g) w w') := pSwap_any base g cap (n + 1) 0 n hs a0 an w h hn ha0 han
  have HB := hide hB
  have HMIN : Hid (∀ b ∈ hs, jle a0 b) := fun b hb => by
    obtain ⟨k, hk⟩ := List.getElem?_of_mem hb
    exact heapy_first hH ha0 (Nat.le_refl _) k b (lt_of_get hk) hk
  have HDI : Hid (DownI (swp hs 0 n) n 0) := downI_new fun k a b h2 hk ha hb => by
    rw [swp_get ha0 han, if_neg (by omega), if_neg (by omega)] at ha hb
    exact hH k a b (by omega) (by omega) ha hb
  have HLAST : Hid ((swp hs 0 n)[n]? = some a0) := by rw [Hid, swp_get ha0 han, if_pos rfl]
  clear h hB hH ha0 han
  go_enter Try.func86, Try.ntmps86
  go_wp2_with fail
  refine (pLen_any _ _ _ w).mono ?_
  rintro e w2 ⟨rfl, rfl⟩
  go_wp2_with fail
  refine HSW.out.mono ?_
  rintro e w3 ⟨rfl, j3, f3⟩
  have b3 : Blk w3 X cs t := (f3.block X hXl hX).trans HB.out
  have hc3 : w3.cell? ⟨X, o, none⟩ = some (.slice (some ⟨g, 0, none⟩) (n + 1) cap) := (b3.cell o).trans hcs
  have HD := hide (down_any base X o g cap (n + 1) n (swp hs 0 n) w3 hc3 j3 (by rw [swp_length, hn]) hX b3.lt (by omega) (by omega) HDI.out)
  have HB3 := hide b3
  have HF3 := hide f3
  clear j3 f3 b3
  go_wp2_with fail
  refine HD.out.mono ?_
  rintro e w4 ⟨⟨r, rfl⟩, hs4, j4, p4, h4, k4, f4⟩
  have b4 : Blk w4 X cs t := (f4.block X HB3.out.lt hX).trans HB3.out
  have hl4 : hs4.length = n + 1 := by rw [p4.length_eq, swp_length, hn]
  have g4 : hs4[n]? = some a0 := (k4 n (Nat.le_refl _)).trans HLAST.out
  have HPOP := hide (pPop_any base X o n cap g cs t hs4 a0 w4 b4 hcs j4 hl4 g4 hX (by omega))
  have hm4 := meth_pop w4 ⟨X, o, none⟩
  have HF4 : Hid (Fr (fun k => k = X ∨ k = g) w2 w4) := (HF3.out.trans f4 fun _ _ x => x).mono fun _ _ x => .inr x
  have HP4 : Hid (hs4.Perm hs) := p4.trans (swp_perm _ _ _)
  have HH4 := hide h4
  have HG4 := hide g4
  clear j4 p4 h4 k4 f4 b4 g4
  go_wp2_with fail
  refine HPOP.out.mono ?_
  rintro e w5 ⟨rfl, b5, j5, f5⟩
  have HE : Hid (∃ j hs', (jobV a0 = jobV j) ∧ Blk w5 X (cs.setIfInBounds o (.slice (some ⟨g, 0, none⟩) n cap)) t ∧ JobsP w5 base (.slice (some ⟨g, 0, none⟩) n cap) hs' ∧ (j :: hs').Perm hs ∧ (∀ b ∈ hs, jle j b) ∧ Heapy hs' hs'.length ∧ Fr (fun k => k = X ∨ k = g) w2 w5) := by
    refine ⟨a0, hs4.take n, rfl, b5, j5, ?_, HMIN.out, ?_, HF4.out.trans f5 fun _ _ x => .inl x⟩
    · refine List.Perm.trans ?_ HP4.out
      have e : hs4 = hs4.take n ++ [a0] := by
        have := take_snoc HG4.out
        rw [List.take_of_length_le (by omega)] at this
        exact this
      rw [e, List.take_append_of_le_length (by simp [hl4]), List.take_take, Nat.min_self]
      exact List.perm_append_comm (l₁ := [a0])
    · have := heapy_take HH4.out
      rw [List.length_take, hl4, Nat.min_eq_left (Nat.le_succ n)]
      exact this
  clear b5 j5 f5
  go_wp2
  go_ret
  obtain ⟨j, hs', e1, r⟩ := HE.out
  exact ⟨j, hs', by rw [← e1]; rfl, r⟩

end Go.Proofs.Ythloffgebebijaa

/- JobsE: the walks of the queue's Put, Take, Len. -/
namespace Go.Proofs.Ythloffgebebijaa
open Go.RowKit

/-- The queue's cell at ⟨X, o⟩ of a block, as a heap of the jobs hs. -/
structure QueP (w : World) (base X o : Nat) (cs : Array Value) (t : TypeId) (v : Value) (hs : List Jb) : Prop where
  blk : Blk w X cs t
  at_ : cs[o]? = some v
  row : JobsP w base v hs
  ne : v.ownBlock ≠ some X
  heap : Heapy hs hs.length

theorem QueP.same {w w' : World} {base X o : Nat} {cs : Array Value} {t : TypeId} {v : Value} {hs : List Jb} (h : QueP w base X o cs t v hs) (hk : ∀ k, k = X ∨ v.ownBlock = some k → w'.heap[k]? = w.heap[k]?) : QueP w' base X o cs t v hs :=
  ⟨(hk X (.inl rfl)).trans h.blk, h.at_, h.row.same fun k e => hk k (.inr e), h.ne, h.heap⟩

theorem qLen_any (base X o : Nat) (cs : Array Value) (t : TypeId) (v : Value) (hs : List Jb) (w : World) (h : QueP w base X o cs t v hs) :
    Calls Try.prog 42 #[.pointer (some ⟨X, o, none⟩)] w fun e w' => e = .returned (.int .i64 hs.length) ∧ w' = w := by
  obtain ⟨a, c, hv⟩ := ownsRow_slice h.row
  subst hv
  have hc : w.cell? ⟨X, o, none⟩ = some (.slice a hs.length c) := (h.blk.cell o).trans h.at_
  clear h
  go_enter Try.func42, Try.ntmps42
  go_wp2
  go_ret
  exact ⟨rfl, rfl⟩

set_option maxRecDepth 100000 in
set_option maxHeartbeats 1600000 in
theorem qPut_any (base X o : Nat) (cs : Array Value) (t : TypeId) (v : Value) (hs : List Jb) (j : Jb) (w : World) (h : QueP w base X o cs t v hs) (hlen : hs.length ≤ 900000) (hbase : base ≤ w.heap.size) :
    Calls Try.prog 85 #[.pointer (some ⟨X, o, none⟩), jobV j] w fun e w' => e = .returned (.tuple #[]) ∧ ∃ v' hs', QueP w' base X o (cs.setIfInBounds o v') t v' hs' ∧ hs'.Perm (hs ++ [j]) ∧ Fr (fun k => k = X ∨ v.ownBlock = some k) w w' ∧ (v'.ownBlock = v.ownBlock ∨ ∃ k, v'.ownBlock = some k ∧ w.heap.size ≤ k) := by
  have hXl := h.blk.lt
  have ho : o < cs.size := by
    rcases Nat.lt_or_ge o cs.size with h' | h'
    · exact h'
    · have := h.at_; rw [Array.getElem?_eq_none h'] at this; cases this
  have HQ := hide h
  have hc : w.cell? ⟨X, o, none⟩ = some v := (h.blk.cell o).trans h.at_
  clear h
  obtain ⟨jn, jt, jd, jc⟩ := j
  have HP : Hid (∀ w1, Below w.heap.size w w1 → w.heap.size ≤ w1.heap.size → Calls Try.prog 87 #[.iface 159 (.pointer (some ⟨X, o, none⟩)), .iface 151 (.agg #[.int .i64 jn, .int .i64 jt, .int .i64 jc, .int .i64 jd])] w1 fun e w' => e = .returned (.tuple #[]) ∧ ∃ v' hs', QueP w' base X o (cs.setIfInBounds o v') t v' hs' ∧ hs'.Perm (hs ++ [⟨jn, jt, jd, jc⟩]) ∧ Fr (fun k => k = X ∨ v.ownBlock = some k) w w' ∧ (v'.ownBlock = v.ownBlock ∨ ∃ k, v'.ownBlock = some k ∧ w.heap.size ≤ k)) := by
    intro w1 hb hz
    refine (hPush_any base X o cs t v hs ⟨jn, jt, jd, jc⟩ w1 (HQ.out.blk.later hb hXl) HQ.out.at_ (HQ.out.row.later hb) HQ.out.ne HQ.out.heap hlen (by omega)).mono ?_
    rintro e w' ⟨rfl, v', hs', b', j', p', h', f', o'⟩
    refine ⟨rfl, v', hs', ⟨b', by simp [ho], j', ?_, h'⟩, p', (Fr.of_below (X := fun k => k = X ∨ v.ownBlock = some k) hb).trans f' fun _ _ x => x, o'.imp id fun ⟨k, e, hk⟩ => ⟨k, e, by omega⟩⟩
    intro e
    rcases o' with e' | ⟨k, e', hk⟩
    · exact HQ.out.ne (e'.symm.trans e)
    · rw [e] at e'; cases e'; omega
  simp only [jobV]
  go_enter Try.func85, Try.ntmps85
  go_wp2_with fail
  have HB0 : Hid (Below w.heap.size w (w.alloc (.cells #[.int .i64 jn, .int .i64 jt, .int .i64 jc, .int .i64 jd] 151)).drew) := ((Below.refl _ _).alloc (Nat.le_refl _) _).drew
  apply wp_someW (fun (w3 : World) => ∃ v' hs', QueP w3 base X o (cs.setIfInBounds o v') t v' hs' ∧ hs'.Perm (hs ++ [⟨jn, jt, jd, jc⟩]) ∧ Fr (fun k => k = X ∨ v.ownBlock = some k) w w3 ∧ (v'.ownBlock = v.ownBlock ∨ ∃ k, v'.ownBlock = some k ∧ w.heap.size ≤ k))
  case h =>
    go_region_with (first
      | (go_at_call 87; refine (HP.out _ HB0.out (by simp)).mono ?_; rintro e w3 ⟨rfl, hq⟩; have HQ3 := hide hq; clear hq))
    all_goals exact ⟨w3, HQ3.out, rfl, rfl⟩
  rintro w3 hq3
  have HQ3 := hide hq3
  clear hq3
  go_wp2
  go_end0
  exact ⟨rfl, HQ3.out⟩

set_option maxRecDepth 100000 in
set_option maxHeartbeats 1600000 in
theorem qTake_any (base X o : Nat) (cs : Array Value) (t : TypeId) (v : Value) (hs : List Jb) (w : World) (h : QueP w base X o cs t v hs) (hne : hs ≠ []) (hlen : hs.length ≤ 900000) :
    Calls Try.prog 78 #[.pointer (some ⟨X, o, none⟩)] w fun e w' => ∃ j v' hs', e = .returned (jobV j) ∧ QueP w' base X o (cs.setIfInBounds o v') t v' hs' ∧ (j :: hs').Perm hs ∧ (∀ b ∈ hs, jle j b) ∧ Fr (fun k => k = X ∨ v.ownBlock = some k) w w' ∧ v'.ownBlock = v.ownBlock := by
  have hXl := h.blk.lt
  have ho : o < cs.size := by
    rcases Nat.lt_or_ge o cs.size with h' | h'
    · exact h'
    · have := h.at_; rw [Array.getElem?_eq_none h'] at this; cases this
  have hpos : 0 < hs.length := List.length_pos_iff.2 hne
  obtain ⟨n, hn⟩ : ∃ n, hs.length = n + 1 := ⟨hs.length - 1, by omega⟩
  obtain ⟨g, cap, hv, hc1, hc2⟩ := ownsRow_some h.row hpos
  subst hv
  rw [hn] at h
  have hgX : X ≠ g := fun e => h.ne (by simp [Value.ownBlock, e])
  have hH : Heapy hs hs.length := hn ▸ h.heap
  have HQ := hide h
  have hc : w.cell? ⟨X, o, none⟩ = some (.slice (some ⟨g, 0, none⟩) (n + 1) cap) := (h.blk.cell o).trans h.at_
  clear h
  have HP : Hid (∀ w1, Below w.heap.size w w1 → Calls Try.prog 86 #[.iface 159 (.pointer (some ⟨X, o, none⟩))] w1 fun e w' => ∃ j hs', e = .returned (.iface 151 (jobV j)) ∧ (QueP w' base X o (cs.setIfInBounds o (.slice (some ⟨g, 0, none⟩) n cap)) t (.slice (some ⟨g, 0, none⟩) n cap) hs' ∧ (j :: hs').Perm hs ∧ (∀ b ∈ hs, jle j b)) ∧ Fr (fun k => k = X ∨ k = g) w1 w') := by
    intro w1 hb
    refine (hPop_any base X o n cap g cs t hs w1 (HQ.out.blk.later hb hXl) HQ.out.at_ (HQ.out.row.later hb) hn hgX hH (by omega)).mono ?_
    rintro e w' ⟨j, hs', rfl, b', j', p', m', h', f'⟩
    exact ⟨j, hs', rfl, ⟨⟨b', by simp [ho], j', by simp [Value.ownBlock]; exact fun e => hgX e.symm, h'⟩, p', m'⟩, f'⟩
  go_enter Try.func78, Try.ntmps78
  go_wp2_with fail
  have hb0 : Below w.heap.size w (w.alloc (.cells #[.int .i64 0, .int .i64 0, .int .i64 0, .int .i64 0] 151)) := (Below.refl _ _).alloc (Nat.le_refl _) _
  refine (HP.out _ hb0).mono ?_
  rintro e w2 ⟨⟨jn, jt, jd, jc⟩, hs', rfl, hq, f2⟩
  have hgl : g < w.heap.size := (ownsRow_lt HQ.out.row (k := g) rfl).2
  have HR : Hid (Blk w2 w.heap.size #[.int .i64 0, .int .i64 0, .int .i64 0, .int .i64 0] 151) := (f2.block w.heap.size (by simp) (by rintro (e | e) <;> omega)).trans (Blk.new w _ _)
  have r0 := HR.out.cell 0
  have r1 := HR.out.cell 1
  have r2 := HR.out.cell 2
  have r3 := HR.out.cell 3
  have z0 := HR.out.free 0
  have z1 := HR.out.free 1
  have z2 := HR.out.free 2
  have z3 := HR.out.free 3
  simp at r0 r1 r2 r3
  have hta := assert_job (.agg #[.int .i64 jn, .int .i64 jt, .int .i64 jc, .int .i64 jd]) w2
  have HQ2 := hide hq
  have HF2 : Hid (Fr (fun k => k = X ∨ k = g) w w2) := (Fr.of_below (X := fun k => k = X ∨ k = g) hb0).trans f2 fun _ _ x => x
  have HZ : Hid (w.heap.size < w2.heap.size) := HR.out.lt
  clear hq f2 hb0
  simp only [jobV]
  repeat (first | go_values | go_skip | go_guarded | go_step | go_upon)
  have HF := (((HR.out.set 0 (.int .i64 jn)).set 1 (.int .i64 jt)).set 2 (.int .i64 jc)).set 3 (.int .i64 jd)
  have s0 := HF.cell 0
  have s1 := HF.cell 1
  have s2 := HF.cell 2
  have s3 := HF.cell 3
  simp at s0 s1 s2 s3
  have hk : ∀ k, k ≠ w.heap.size → ((((w2.setCell ⟨w.heap.size, 0, none⟩ (.int .i64 jn)).setCell ⟨w.heap.size, 1, none⟩ (.int .i64 jt)).setCell ⟨w.heap.size, 2, none⟩ (.int .i64 jc)).setCell ⟨w.heap.size, 3, none⟩ (.int .i64 jd)).heap[k]? = w2.heap[k]? := by
    intro k hk
    rw [heap_setCell_other _ ⟨w.heap.size, 3, none⟩ k _ hk, heap_setCell_other _ ⟨w.heap.size, 2, none⟩ k _ hk, heap_setCell_other _ ⟨w.heap.size, 1, none⟩ k _ hk, heap_setCell_other _ ⟨w.heap.size, 0, none⟩ k _ hk]
  have hq : QueP ((((w2.setCell ⟨w.heap.size, 0, none⟩ (.int .i64 jn)).setCell ⟨w.heap.size, 1, none⟩ (.int .i64 jt)).setCell ⟨w.heap.size, 2, none⟩ (.int .i64 jc)).setCell ⟨w.heap.size, 3, none⟩ (.int .i64 jd)) base X o (cs.setIfInBounds o (.slice (some ⟨g, 0, none⟩) n cap)) t (.slice (some ⟨g, 0, none⟩) n cap) hs' :=
    HQ2.out.1.same fun k e => hk k (by
      rcases e with e | e
      · omega
      · simp only [Value.ownBlock, Option.some.injEq] at e; omega)
  have hf := (((HF2.out.setNew 0 (.int .i64 jn) (Nat.le_refl _)).setNew 1 (.int .i64 jt) (Nat.le_refl _)).setNew 2 (.int .i64 jc) (Nat.le_refl _)).setNew 3 (.int .i64 jd) (Nat.le_refl _)
  refine bodyPost_ret (v := .agg #[.int .i64 jn, .int .i64 jt, .int .i64 jc, .int .i64 jd]) (by simp [results, Try.results78, go_sem, s0, s1, s2, s3]) rfl ⟨⟨jn, jt, jd, jc⟩, .slice (some ⟨g, 0, none⟩) n cap, hs', rfl, hq, HQ2.out.2.1, HQ2.out.2.2, hf.mono ?_, rfl⟩
  rintro q _ (e | e)
  · exact .inl e
  · exact .inr (by simp [Value.ownBlock, e])

end Go.Proofs.Ythloffgebebijaa
