/- LentA: a configuration that was lent: its lists, as they lie in memory. A law for copies of elements of several cells. -/
import Derived.Test.YthloffgebebijaaGreatBookK
import Derived.Test.YthloffgebebijaaGreatLists
import Derived.Test.YthloffgebebijaaGreatSetA
import Derived.Laws.CopyOwn
import Derived.Deep.DeepMust
namespace Go.Proofs.YthloffgebebijaaGreat
open Go.RowKit

theorem run_copy_wide {P : Program} (w : World) (dT sT ty elem : TypeId) (size g dLen dCap m sCap : Nat) (sp : Option Addr) (cur : Array Value) (t : TypeId) (cs : List Value)
    (hu : P.underlying dT = some (.slice elem)) (hs : (P.info? elem).map (·.size) = some size) (hg : w.heap[g]? = some (.cells cur t (0, 0))) (hm : m ≤ dLen) (hn : cs.length = m * size)
    (hsrc : 0 < m → ∃ a, sp = some a ∧ ∀ j v, cs[j]? = some v → w.cell? (a.add j) = some v) (hfit : cs.length ≤ cur.size) (h1 : ∀ v ∈ cs, v.oneCell' = true) :
    (Builtin.copy_ #[dT, sT] ty #[.slice (some ⟨g, 0, none⟩) dLen dCap, .slice sp m sCap]).run P w = .ok (goInt m) (w.setRow g (cs ++ cur.toList.drop cs.length).toArray) := by
  cases hq : P.info? elem with
  | none => simp [hq] at hs
  | some i =>
    have hi : i.size = size := by simpa [hq] using hs
    have hmin : Nat.min m dLen = m := Nat.min_eq_left hm
    by_cases h0 : m = 0
    · subst h0
      obtain rfl : cs = [] := List.eq_nil_of_length_eq_zero (by omega)
      have he : w.setRow g cur = w := setRow_self w g cur t (0, 0) hg
      cases sp with
      | none => simp [Builtin.copy_, run_underlying hu, Builtin.lenOf, Builtin.firstCells, sizeOf, typeInfo, hq, hmin, storeCells, he]
      | some a => simp [Builtin.copy_, run_underlying hu, Builtin.lenOf, Builtin.firstCells, sizeOf, typeInfo, hq, hmin, loadCells, loadCellsFrom, storeCells, he]
    · obtain ⟨a, rfl, hsrc'⟩ := hsrc (by omega)
      have hl := run_loadCells_list (P := P) w a cs hsrc'
      have hst := run_storeCells_at P g 0 t cs 0 cur w hg (by simpa using hfit) h1
      simp only [Nat.zero_add, List.take_zero, List.nil_append] at hst
      simp [Builtin.copy_, run_underlying hu, Builtin.lenOf, Builtin.firstCells, sizeOf, typeInfo, hq, hi, hmin, ← hn, hl, hst]

theorem wpList_copy_wide {P : Program} {w : World} {ops : Array Oper} {rest : List Oper} {o : Oper} {a : Act} {Q : Exit → Act → World → Prop} (hgd : o.guard = none) (d s : Operand) (dT sT : TypeId)
    (ho : o.op = .call { callee := .builtin .copy, args := #[d, s], argTypes := #[dT, sT] }) (elem : TypeId) (size : Nat) (hu : P.underlying dT = some (.slice elem)) (hsz : (P.info? elem).map (·.size) = some size)
    (g dLen dCap m sCap : Nat) (sp : Option Addr) (hd : a.eval d = .slice (some ⟨g, 0, none⟩) dLen dCap) (hs : a.eval s = .slice sp m sCap)
    (cur : List Value) (t : TypeId) (hg : Blk w g cur.toArray t) (cs : List Value) (hm : m ≤ dLen) (hn : cs.length = m * size)
    (hsrc : 0 < m → ∃ a, sp = some a ∧ ∀ j v, cs[j]? = some v → w.cell? (a.add j) = some v) (hfit : cs.length ≤ cur.length) (h1 : ∀ v ∈ cs, v.oneCell' = true)
    (h : ∀ w', Hid (Blk w' g (cs ++ cur.drop cs.length).toArray t) → Hid (w.grownBy w' (some g)) → wpList P ops Q rest (a.put o.dst (goInt m)) w') : wpList P ops Q (o :: rest) a w := by
  refine wpList_plain hgd fun K hK => ?_
  have hrun := run_copy_wide (P := P) w dT sT o.type elem size g dLen dCap m sCap sp cur.toArray t cs hu hsz hg hm hn hsrc (by simpa using hfit) h1
  unfold Oper.wp
  simp [execOp, ho, resolve, invoke, builtin, hd, hs, hrun, Result.andThen]
  exact hK _ _ (h _ (setRow_heap w g _ _ t _ hg) ⟨rfl, rfl, rfl, by simp, fun k _ hk => setRow_other w g k _ (fun e => hk (by simp [e]))⟩)

theorem info_lims : (Tryz.prog.info? 53).map (fun i => (i.zero, i.size, i.bytes)) = some (some (.slice none 0 0), 1, 24) := by kernel_rfl

def lentEnt (t : Tk) (L : Nat) : Int × Int × Value := (t.cost, t.due, .slice (some ⟨L, 0, none⟩) t.lims.length (t.lims.length + 8))
def lentRow (t : Tk) (L : Nat) : Value := .slice (some ⟨L, 0, none⟩) (t.lims.length + 8) (t.lims.length + 8)
def spareT : Int × Int × Value := (-77, 0, .slice none 0 0)
def zeroT : Int × Int × Value := (0, 0, .slice none 0 0)
def lentLims (t : Tk) : List (Int × Int) := t.lims ++ List.replicate 8 (-77, 0)

/-- What was lent so far: k entries of n + 8. -/
structure LentAt (w : World) (H T : Nat) (lv : Value) (ts : List Tk) (k : Nat) (Ls : List Nat) : Prop where
  len : Ls.length = min k ts.length
  inc : Ls.Pairwise (· < ·)
  lt : ∀ L ∈ Ls, T < L ∧ L < w.heap.size
  row : Blk w T (flat3 (List.zipWith lentEnt ts Ls ++ List.replicate (k - ts.length) spareT ++ List.replicate (ts.length + 8 - k) zeroT)).toArray 55
  lims : w.ownsRow H 53 1 lv Ls.length (List.zipWith lentRow ts Ls)
  each : ∀ (i : Nat) (t : Tk) (L : Nat), ts[i]? = some t → Ls[i]? = some L → Blk w L (flat2 (lentLims t)).toArray 52

theorem LentAt.below {w w' : World} {H T k : Nat} {lv : Value} {ts : List Tk} {Ls : List Nat} (h : LentAt w H T lv ts k Ls) (hb : Below w.heap.size w w') : LentAt w' H T lv ts k Ls :=
  ⟨h.len, h.inc, fun L hL => ⟨(h.lt L hL).1, Nat.lt_of_lt_of_le (h.lt L hL).2 hb.size⟩, h.row.later hb h.row.lt, owns_below h.lims hb, fun i t L h1 h2 => (h.each i t L h1 h2).later hb (h.each i t L h1 h2).lt⟩

theorem flat2_append (a b : List (Int × Int)) : flat2 (a ++ b) = flat2 a ++ flat2 b := by simp [flat2, List.flatMap_append]
theorem flat2_drop_rep (m r : Nat) (x : Int × Int) : (flat2 (List.replicate (m + r) x)).drop (2 * m) = flat2 (List.replicate r x) := by
  have h : List.replicate (m + r) x = List.replicate m x ++ List.replicate r x := List.replicate_append_replicate.symm
  rw [h, flat2_append, List.drop_left' (by rw [flat2_length, List.length_replicate])]
theorem flat2_one (ls : List (Int × Int)) : ∀ u ∈ flat2 ls, u.oneCell' = true := by
  intro u hu
  simp only [flat2, List.mem_flatMap] at hu
  obtain ⟨l, _, hl⟩ := hu
  simp at hl
  rcases hl with rfl | rfl <;> rfl
theorem flat2_cells {w : World} {b o : Nat} {ls : List (Int × Int)} (h : ∀ i l, ls[i]? = some l → LimAt w b (o + i * 2) l) : ∀ (j : Nat) (v : Value), (flat2 ls)[j]? = some v → w.cell? ⟨b, o + j, none⟩ = some v := by
  intro j v hv
  have hlt := lt_of_get hv
  rw [flat2_length] at hlt
  obtain ⟨l, hl⟩ := get_of_lt (l := ls) (k := j / 2) (by omega)
  have hg := flat2_get ls (j / 2) l hl
  have hc := h _ _ hl
  rcases Nat.mod_two_eq_zero_or_one j with h2 | h2
  · have e : 2 * (j / 2) = j := by omega
    rw [e] at hg
    have := hg.1.symm.trans hv
    simp only [Option.some.injEq] at this
    rw [← this, show o + j = o + j / 2 * 2 from by omega]
    exact hc.1
  · have e : 2 * (j / 2) + 1 = j := by omega
    rw [e] at hg
    have := hg.2.symm.trans hv
    simp only [Option.some.injEq] at this
    rw [← this, show o + j = o + j / 2 * 2 + 1 from by omega]
    exact hc.2
theorem zip_snoc {α β γ : Type} (f : α → β → γ) {ts : List α} {Ls : List β} {k : Nat} {t : α} (L : β) (h : ts[k]? = some t) (hl : Ls.length = k) : List.zipWith f ts (Ls ++ [L]) = List.zipWith f ts Ls ++ [f t L] := by
  induction ts generalizing Ls k with
  | nil => simp at h
  | cons a r ih =>
    cases Ls with
    | nil =>
      simp only [List.length_nil] at hl
      subst hl
      simp at h
      subst h
      cases r <;> simp
    | cons b q =>
      simp only [List.length_cons] at hl
      obtain ⟨j, rfl⟩ : ∃ j, k = j + 1 := ⟨k - 1, by omega⟩
      simp at h
      have hq : q.length = j := by omega
      simp only [List.cons_append, List.zipWith_cons_cons, ih h hq]
theorem zip_len {α β γ : Type} (f : α → β → γ) (ts : List α) (Ls : List β) (h : Ls.length ≤ ts.length) : (List.zipWith f ts Ls).length = Ls.length := by simp; omega
theorem get_snoc {α : Type} {Ls : List α} {k i : Nat} {L x : α} (hl : Ls.length = k) (h : (Ls ++ [L])[i]? = some x) : Ls[i]? = some x ∨ i = k ∧ x = L := by
  rw [List.getElem?_append] at h
  split at h
  · exact .inl h
  · rename_i hlt
    right
    by_cases e : i = k
    · subst e
      simp [hl] at h
      exact ⟨rfl, h.symm⟩
    · rw [List.getElem?_eq_none (by simp; omega)] at h
      simp at h


theorem LentAt.kept {w w' : World} {H T k B : Nat} {lv : Value} {ts : List Tk} {Ls : List Nat} {e : TypeId} (h : LentAt w H T lv ts k Ls) (hk : KeepBut e B w w') (h1 : 55 ≠ e) (h2 : 52 ≠ e) (h3 : 53 ≠ e) : LentAt w' H T lv ts k Ls :=
  ⟨h.len, h.inc, fun L hL => ⟨(h.lt L hL).1, Nat.lt_of_lt_of_le (h.lt L hL).2 hk.size⟩, h.row.kept hk h1, owns_keptT h.lims hk h3, fun i t L q1 q2 => (h.each i t L q1 q2).kept hk h2⟩

theorem owns_cell1 {w : World} {base : Nat} {e : TypeId} {n k : Nat} {v u : Value} {xs : List Value} (h : w.ownsRow base e 1 v n xs) (hk : xs[k]? = some u) : ∃ g cap, v = .slice (some ⟨g, 0, none⟩) n cap ∧ base ≤ g ∧ g < w.heap.size ∧ w.cell? ⟨g, k, none⟩ = some u ∧ k < n := by
  have hlt := lt_of_get hk
  rw [h.1] at hlt
  rcases h.2 with ⟨_, h0⟩ | ⟨g, cap, cur, hv, hb, hg, _, _, _, ht⟩
  · omega
  · refine ⟨g, cap, hv, hb, lt_of_block hg, ?_, by omega⟩
    rw [cell_of_row w g k cur e (0, 0) hg]
    rw [← ht, List.getElem?_take, if_pos hlt] at hk
    simpa using hk

/-- What was lent reads as it was. -/
theorem LentAt.tasks {w : World} {H T : Nat} {lv : Value} {ts : List Tk} {Ls : List Nat} (h : LentAt w H T lv ts (ts.length + 8) Ls) : Tasks w w.heap.size (.slice (some ⟨T, 0, none⟩) ts.length (ts.length + 8)) ts := by
  have hlen : Ls.length = ts.length := by have := h.len; omega
  refine ⟨_, _, rfl, .inr ⟨T, 0, rfl, h.row.lt, fun i t ht => ?_⟩⟩
  obtain ⟨L, hL⟩ := get_of_lt (l := Ls) (k := i) (by have := lt_of_get ht; omega)
  have hg := flat3_get (List.zipWith lentEnt ts Ls ++ List.replicate (ts.length + 8 - ts.length) spareT ++ List.replicate (ts.length + 8 - (ts.length + 8)) zeroT) i (lentEnt t L) (by
    have hi := lt_of_get ht
    rw [List.append_assoc, List.getElem?_append_left (by rw [zip_len _ _ _ (by omega)]; omega), List.getElem?_zipWith, ht, hL])
  have hc := fun j => h.row.cell (i * 3 + j)
  have hB := h.each i t L ht hL
  refine ⟨?_, ?_, .slice (some ⟨L, 0, none⟩) t.lims.length (t.lims.length + 8), ?_, _, _, rfl, .inr ⟨L, 0, rfl, hB.lt, fun q l hq => ?_⟩⟩
  · rw [Nat.zero_add]; exact (hc 0).trans (by simpa [lentEnt] using hg.1)
  · rw [Nat.zero_add]; exact (hc 1).trans (by simpa [lentEnt] using hg.2.1)
  · rw [Nat.zero_add]; exact (hc 2).trans (by simpa [lentEnt] using hg.2.2)
  · have := flat2_get (lentLims t) q l (by unfold lentLims; rw [List.getElem?_append_left (lt_of_get hq)]; exact hq)
    rw [Nat.mul_comm] at this
    exact ⟨by rw [Nat.zero_add, hB.cell]; simpa using this.1, by rw [Nat.zero_add, hB.cell]; simpa using this.2⟩

end Go.Proofs.YthloffgebebijaaGreat

/- LentB: the walk of tillerlaw's lentConfig. -/
namespace Go.Proofs.YthloffgebebijaaGreat
open Go.RowKit

set_option maxRecDepth 100000 in
set_option maxHeartbeats 3200000 in
theorem lentConfig_any (B : Nat) (v : Value) (c : Cfg) (w : World) (hv : Cf w B v c) (hB : B ≤ w.heap.size) (hl : c.tasks.length ≤ 3518437208780) (hl2 : ∀ t ∈ c.tasks, t.lims.length ≤ 8796093021952) :
    Calls Tryz.prog 22 #[v] w fun e w' => ∃ T lv Ls, e = .returned (.tuple #[.agg #[.int .i64 c.lines, .int .i64 c.room, .int .i64 c.poll, .int .i64 c.idle, .int .i64 c.sw, .slice (some ⟨T, 0, none⟩) c.tasks.length (c.tasks.length + 8)], .agg #[.slice (some ⟨T, 0, none⟩) (c.tasks.length + 8) (c.tasks.length + 8), lv]]) ∧
      LentAt w' w.heap.size T lv c.tasks (c.tasks.length + 8) Ls ∧ w.heap.size ≤ T ∧ Below w.heap.size w w' := by
  obtain ⟨s, rfl, hs⟩ := hv
  obtain ⟨x1, x2, x3, x4, x5, ts⟩ := c
  simp only at hs hl hl2 ⊢
  obtain ⟨sa, scap, rfl, hs⟩ := hs
  generalize hn : ts.length = n at *
  have HN := hide hn
  have HC := hide hs
  have HL2 := hide hl2
  obtain ⟨i0, hi, hz0, hzs, hzb⟩ := info_parts info_task
  have HI := hide (And.intro hi (And.intro hz0 (And.intro hzs hzb)))
  obtain ⟨i1, hi1, hy0, hys, hyb⟩ := info_parts info_limit
  have HI1 := hide (And.intro hi1 (And.intro hy0 (And.intro hys hyb)))
  obtain ⟨i2, hi2, hx0, hxs, hxb⟩ := info_parts info_lims
  have HI2 := hide (And.intro hi2 (And.intro hx0 (And.intro hxs hxb)))
  clear hn hs hl2 hi hz0 hzs hzb hi1 hy0 hys hyb hi2 hx0 hxs hxb
  go_enter Tryz.func22, Tryz.ntmps22
  go_wp2_with (at_make; go_must (refine wpList_make_full _ rfl _ _ 38 rfl w.heap.size 55 i0 _ 3 Tryz.underlying38 HI.out.1 HI.out.2.1 HI.out.2.2.1 .i64 .i64 _ _ (n + 8) rfl rfl rfl rfl ?_ ?_ ?_ ?_))
  · rw [HI.out.2.2.2]; omega
  · unfold maxLen; omega
  · simp; omega
  intro w4 o4 g4
  obtain ⟨L4, hT0⟩ := own_blk o4
  rw [made3 (n + 8)] at L4
  have B0 : Below w.heap.size w ((((w.alloc (.cells #[.int .i64 x1, .int .i64 x2, .int .i64 x3, .int .i64 x4, .int .i64 x5, .slice sa n scap] 40)).alloc (.cells #[.int .i64 0, .int .i64 0, .int .i64 0, .int .i64 0, .int .i64 0, .slice none 0 0] 40)).alloc (.cells #[.slice none 0 0, .slice none 0 0] 71)).alloc (.cells #[.slice none 0 0, .slice none 0 0] 71)) := ((((Below.refl _ _).alloc (Nat.le_refl _) _).alloc (by simp) _).alloc (by simp; omega) _).alloc (by simp; omega) _
  have K0 := Blk.grownRow ((((Blk.new w #[.int .i64 x1, .int .i64 x2, .int .i64 x3, .int .i64 x4, .int .i64 x5, .slice sa n scap] 40).alloc (.cells #[.int .i64 0, .int .i64 0, .int .i64 0, .int .i64 0, .int .i64 0, .slice none 0 0] 40)).alloc (.cells #[.slice none 0 0, .slice none 0 0] 71)).alloc (.cells #[.slice none 0 0, .slice none 0 0] 71)) g4 (by simp)
  have K1 : Blk w4 (w.heap.size + 1) #[.int .i64 0, .int .i64 0, .int .i64 0, .int .i64 0, .int .i64 0, .slice none 0 0] 40 := Blk.grownRow ((((by simpa using Blk.new (w.alloc (.cells #[.int .i64 x1, .int .i64 x2, .int .i64 x3, .int .i64 x4, .int .i64 x5, .slice sa n scap] 40)) #[.int .i64 0, .int .i64 0, .int .i64 0, .int .i64 0, .int .i64 0, .slice none 0 0] 40) : Blk ((w.alloc (.cells #[.int .i64 x1, .int .i64 x2, .int .i64 x3, .int .i64 x4, .int .i64 x5, .slice sa n scap] 40)).alloc (.cells #[.int .i64 0, .int .i64 0, .int .i64 0, .int .i64 0, .int .i64 0, .slice none 0 0] 40)) (w.heap.size + 1) #[.int .i64 0, .int .i64 0, .int .i64 0, .int .i64 0, .int .i64 0, .slice none 0 0] 40).alloc (.cells #[.slice none 0 0, .slice none 0 0] 71)).alloc (.cells #[.slice none 0 0, .slice none 0 0] 71)) g4 (by simp)
  have K2 : Blk w4 (w.heap.size + 1 + 1) #[.slice none 0 0, .slice none 0 0] 71 := Blk.grownRow (((by simpa using Blk.new ((w.alloc (.cells #[.int .i64 x1, .int .i64 x2, .int .i64 x3, .int .i64 x4, .int .i64 x5, .slice sa n scap] 40)).alloc (.cells #[.int .i64 0, .int .i64 0, .int .i64 0, .int .i64 0, .int .i64 0, .slice none 0 0] 40)) #[.slice none 0 0, .slice none 0 0] 71) : Blk (((w.alloc (.cells #[.int .i64 x1, .int .i64 x2, .int .i64 x3, .int .i64 x4, .int .i64 x5, .slice sa n scap] 40)).alloc (.cells #[.int .i64 0, .int .i64 0, .int .i64 0, .int .i64 0, .int .i64 0, .slice none 0 0] 40)).alloc (.cells #[.slice none 0 0, .slice none 0 0] 71)) (w.heap.size + 1 + 1) #[.slice none 0 0, .slice none 0 0] 71).alloc (.cells #[.slice none 0 0, .slice none 0 0] 71)) g4 (by simp)
  have K3 : Blk w4 (w.heap.size + 1 + 1 + 1) #[.slice none 0 0, .slice none 0 0] 71 := Blk.grownRow ((by simpa using Blk.new (((w.alloc (.cells #[.int .i64 x1, .int .i64 x2, .int .i64 x3, .int .i64 x4, .int .i64 x5, .slice sa n scap] 40)).alloc (.cells #[.int .i64 0, .int .i64 0, .int .i64 0, .int .i64 0, .int .i64 0, .slice none 0 0] 40)).alloc (.cells #[.slice none 0 0, .slice none 0 0] 71)) #[.slice none 0 0, .slice none 0 0] 71) : Blk ((((w.alloc (.cells #[.int .i64 x1, .int .i64 x2, .int .i64 x3, .int .i64 x4, .int .i64 x5, .slice sa n scap] 40)).alloc (.cells #[.int .i64 0, .int .i64 0, .int .i64 0, .int .i64 0, .int .i64 0, .slice none 0 0] 40)).alloc (.cells #[.slice none 0 0, .slice none 0 0] 71)).alloc (.cells #[.slice none 0 0, .slice none 0 0] 71)) (w.heap.size + 1 + 1 + 1) #[.slice none 0 0, .slice none 0 0] 71) g4 (by simp)
  have HB4 : Hid (Below w.heap.size w w4) := B0.trans ⟨g4.os, g4.tape, g4.output, g4.size, fun k hk => g4.block k (by simp; omega) (by simp)⟩
  generalize hT : w.heap.size + 1 + 1 + 1 + 1 = T at *
  generalize hX3 : w.heap.size + 1 + 1 + 1 = X3 at *
  generalize hX2 : w.heap.size + 1 + 1 = X2 at *
  generalize hX1 : w.heap.size + 1 = X1 at *
  have hx1 : w.heap.size < X1 := by omega
  have hx2 : X1 < X2 := by omega
  have hx3 : X2 < X3 := by omega
  have hxT : X3 < T := by omega
  have k30 : w4.cell? ⟨X3, 0, none⟩ = some (.slice none 0 0) := K3.cell 0
  have k30f := K3.free 0
  have HK0 := hide K0; have HK1 := hide K1; have HK2 := hide K2; have HK3 := hide K3; have HT4 := hide L4
  have hzT := L4.lt
  have hz3 := K3.lt
  clear hT hX3 hX2 hX1 o4 g4 L4 B0 K0 K1 K2 K3 hT0
  go_wp2_with fail
  go_loopw [5] (fun i wr => ∃ (k : Nat) (lv : Value) (Ls : List Nat), i = .int .i64 k ∧ k ≤ n + 8 ∧ LentAt wr w.heap.size T lv ts k Ls ∧ Below w.heap.size w wr ∧ Blk wr w.heap.size #[.int .i64 x1, .int .i64 x2, .int .i64 x3, .int .i64 x4, .int .i64 x5, .slice sa n scap] 40 ∧ Blk wr X1 #[.int .i64 0, .int .i64 0, .int .i64 0, .int .i64 0, .int .i64 0, .slice none 0 0] 40 ∧ Blk wr X2 #[.slice none 0 0, .slice none 0 0] 71 ∧ Blk wr X3 #[.slice (some ⟨T, 0, none⟩) (n + 8) (n + 8), lv] 71) (fun i _ => n + 8 - (intOf i).toNat)
  case atStart =>
    refine ⟨0, .slice none 0 0, [], rfl, Nat.zero_le _, ⟨by simp, by simp, by simp, ?_, (by simpa using World.ownsRow_nil _ _ _ _), by simp⟩, HB4.out.setCell (by simp; omega) _, HK0.out.other (by simp; omega) _, HK1.out.other (by simp; omega) _, HK2.out.other (by simp; omega) _, HK3.out.set 0 _⟩
    have := HT4.out.other (a := ⟨X3, 0, none⟩) (by simp; omega) (.slice (some ⟨T, 0, none⟩) (n + 8) (n + 8))
    simpa [HN.out, zeroT] using this
  case round =>
    obtain ⟨k, lv, Ls, rfl, hk, hla, hbe, h0, h1, h2, h3⟩ := hrel
    have HLA := hide hla; have HBE := hide hbe; have HK0 := hide h0; have HK1 := hide h1; have HK2 := hide h2; have HK3 := hide h3
    have c05 : wr.cell? ⟨w.heap.size, 5, none⟩ = some (.slice sa n scap) := h0.cell 5
    have c30 : wr.cell? ⟨X3, 0, none⟩ = some (.slice (some ⟨T, 0, none⟩) (n + 8) (n + 8)) := h3.cell 0
    have c31 : wr.cell? ⟨X3, 1, none⟩ = some lv := h3.cell 1
    have c31f := h3.free 1
    have hz3 := h3.lt
    have hzT := hla.row.lt
    have hsz := hbe.size
    clear hla hbe h0 h1 h2 h3 k30 k30f
    by_cases hkn : k < n
    · have hkn8 : k < n + 8 := by omega
      obtain ⟨t, hg⟩ := get_of_lt (l := ts) (k := k) (by rw [HN.out]; exact hkn)
      rcases HC.out with he | ⟨sb, so, rfl, hsb, hsc⟩
      · rw [he] at hg; simp at hg
      obtain ⟨d0, d1, s, d2, hs⟩ := (hsc k _ hg).later HBE.out hB (by omega)
      have HML := hide (HL2.out t (List.mem_of_getElem? hg))
      have HTK := hide (take_snoc hg)
      have HG := hide hg
      obtain ⟨cost, due, lims⟩ := t
      simp only at d0 d1 hs
      obtain ⟨la, lcap, rfl, hls⟩ := hs
      have HLS := hide hls
      generalize hm : lims.length = m at *
      have HM := hide hm
      have hm7 : m ≤ 8796093021952 := by have := HML.out; first | omega | (simp only at this; omega)
      clear hm hls hg hsc
      obtain ⟨W0, hW0⟩ : ∃ W, W = wr := ⟨_, rfl⟩
      subst hW0
      go_wp2_with (at_make; go_must (refine wpList_make_full _ rfl _ _ 53 rfl w.heap.size 52 i1 _ 2 Tryz.underlying53 HI1.out.1 HI1.out.2.1 HI1.out.2.2.1 .i64 .i64 _ _ (m + 8) rfl rfl rfl rfl ?_ ?_ ?_ ?_))
      · rw [HI1.out.2.2.2]; omega
      · unfold maxLen; omega
      · omega
      intro w5 o5 g5
      obtain ⟨L5, hL0⟩ := own_blk o5
      rw [made2 (m + 8)] at L5
      have HL5 := hide L5
      have HG5 := hide (below_grownBy g5)
      have hzL := L5.lt
      generalize hL : W0.heap.size = L at *
      have HLW := hide hL
      clear o5 g5 L5 hL
      go_wp2_with fail
      go_loopw [7] (fun j wr => ∃ q : Nat, j = .int .i64 q ∧ q ≤ m + 8 ∧ Blk wr L (flat2 (List.replicate q (-77, 0) ++ List.replicate (m + 8 - q) (0, 0))).toArray 52 ∧ Below L W0 wr) (fun j _ => m + 8 - (intOf j).toNat)
      case atStart => exact ⟨0, rfl, Nat.zero_le _, by simpa using HL5.out, HG5.out⟩
      case round =>
        obtain ⟨q, rfl, hq, hbl, hbw⟩ := hrel
        have HBL := hide hbl
        have HBW := hide hbw
        have hzq := hbl.lt
        clear hbl hbw
        by_cases hq8 : q < m + 8
        · obtain ⟨r, hr⟩ : ∃ r, m + 8 - q = r + 1 := ⟨m + 8 - q - 1, by omega⟩
          have HR := hide hr
          have hbl := HBL.out
          rw [hr] at hbl
          have hget := flat2_get (List.replicate q ((-77 : Int), (0 : Int)) ++ List.replicate (r + 1) (0, 0)) q (0, 0) (by rw [List.getElem?_append_right (by simp)]; simp)
          have f0 : wr.cell? ⟨L, q * 2, none⟩ = some (.int .i64 0) := by rw [hbl.cell, Nat.mul_comm]; simpa [zeroT] using hget.1
          have f1 : wr.cell? ⟨L, q * 2 + 1, none⟩ = some (.int .i64 0) := by rw [hbl.cell, Nat.mul_comm]; simpa using hget.2
          have e0 := hbl.free (q * 2)
          have e1 := hbl.free (q * 2 + 1)
          have HBL2 := hide hbl
          clear hbl hget hr
          go_wp2
          go_roundw
          case rel =>
            refine ⟨q + 1, by go_num, by omega, ?_, (HBW.out.setCell (by simp) _).setCell (by simp) _⟩
            have := (HBL2.out.set (q * 2) (.int .i64 (-77))).set (q * 2 + 1) (.int .i64 0)
            rw [show m + 8 - (q + 1) = r from by have := HR.out; omega, List.replicate_succ', ← set_next (b := ((0 : Int), (0 : Int))) (r := r) (List.length_replicate), flat2_set, Nat.mul_comm 2 q]
            simpa using this
          case measure => simp [intOf]; omega
        · have hqe : q = m + 8 := by omega
          have HLF : Hid (Blk wr L (flat2 (List.replicate (m + 8) (-77, 0))).toArray 52) := by
            have := HBL.out
            rw [hqe] at this
            simpa [Hid] using this
          have HSRC : Hid (0 < m → ∃ a, la = some a ∧ ∀ (j : Nat) (v : Value), (flat2 lims)[j]? = some v → wr.cell? (a.add j) = some v) := by
            intro hm0
            rcases HLS.out with he | ⟨b, o, hla, hb, hc⟩
            · have := HM.out; rw [he] at this; simp at this; omega
            · refine ⟨_, hla, fun j v hj => ?_⟩
              rw [Addr.add_lit]
              exact flat2_cells (fun i l hi => (hc i l hi).later HBW.out (by omega)) j v hj
          have e05 : wr.cell? ⟨w.heap.size, 5, none⟩ = some (.slice (some ⟨sb, so, none⟩) n scap) := (HBW.out.cell (p := ⟨w.heap.size, 5, none⟩) (by simp; omega)).trans c05
          have e2 : wr.cell? ⟨sb, so + k * 3 + 2, none⟩ = some (.slice la m lcap) := (HBW.out.cell (p := ⟨sb, so + k * 3 + 2, none⟩) (by simp; omega)).trans d2
          clear hqe HBL
          go_wp2_with (refine wpList_copy_wide rfl _ _ 53 53 rfl 52 2 Tryz.underlying53 ?_ L (m + 8) (m + 8) m lcap la rfl rfl _ 52 HLF.out (flat2 lims) (by omega) ?_ HSRC.out ?_ (flat2_one _) ?_)
          · rw [HI1.out.1]; simp [HI1.out.2.2.1]
          · rw [flat2_length, HM.out]; omega
          · rw [flat2_length, flat2_length, HM.out, List.length_replicate]; omega
          intro w6 hl6 hg6
          have HL6 : Hid (Blk w6 L (flat2 (lentLims ⟨cost, due, lims⟩)).toArray 52) := by
            have := hl6.out
            rw [flat2_length, HM.out, flat2_drop_rep, ← flat2_append] at this
            exact this
          have HB6 : Hid (Below L W0 w6) := HBW.out.trans (below_grownBy_new hg6.out (by omega) (by simp))
          have hz6 := HL6.out.lt
          have g31 : w6.cell? ⟨X3, 1, none⟩ = some lv := (HB6.out.cell (p := ⟨X3, 1, none⟩) (by simp; omega)).trans c31
          have HLA6 := hide (HLA.out.below (by rw [HLW.out]; exact HB6.out))
          clear hl6 hg6 HBW HLF HSRC e05 e2
          have HLEN : Hid (Ls.length = k) := by have := HLA.out.len; rw [HN.out] at this; simp only [Hid]; omega
          go_wp2_with (at_builtin; go_must (refine wpList_append_own _ rfl _ _ 69 rfl w.heap.size 53 i2 (.slice none 0 0) 1 24 Tryz.underlying69 HI2.out.1 HI2.out.2.1 HI2.out.2.2.1 HI2.out.2.2.2 rfl (by decide) lv Ls.length (List.zipWith lentRow ts Ls) rfl (HLA6.out.lims.alloc _) _ 1 1 [.slice (some ⟨L, 0, none⟩) (m + 8) (m + 8)] rfl rfl (new_cells _ _ _ _ rfl) ?_ ?_ ?_ ?_ ?_))
          · intro u hu; simp at hu; subst hu; rfl
          · have := HLEN.out; unfold maxLen; omega
          · have := HLEN.out; omega
          · simp; omega
          intro v7 w7 o7 g7 _
          have hk7 := KeepBut.grown g7 (HLA6.out.lims.alloc _) (Nat.le_refl _)
          obtain ⟨va, vc, rfl⟩ := owns_slice o7
          have k30 := ((HK3.out.later HB6.out (by omega)).alloc (.cells #[.slice (some ⟨L, 0, none⟩) (m + 8) (m + 8)] 53)).kept hk7 (by decide)
          have f31 : w7.cell? ⟨X3, 1, none⟩ = some lv := k30.cell 1
          have f31f := k30.free 1
          have HK37 := hide k30
          have HO7 := hide o7
          have HK7 := hide hk7
          clear o7 g7 hk7 k30 g31
          have hz7 := HK7.out.size
          simp only [World.size_alloc] at hz7
          go_wp2_with fail
          have HS8 : Hid (KeepBut 71 w.heap.size w7 (w7.setCell ⟨X3, 1, none⟩ (.slice va (Ls.length + 1) vc))) := KeepBut.set HK37.out (by omega) _
          have hz8 : (w7.setCell ⟨X3, 1, none⟩ (.slice va (Ls.length + 1) vc)).heap.size = w7.heap.size := by simp
          have HK38 := hide (HK37.out.set 1 (.slice va (Ls.length + 1) vc))
          have HO8 := hide (owns_keptT HO7.out HS8.out (by decide))
          have HA : Hid (Below L W0 (w6.alloc (.cells #[.slice (some ⟨L, 0, none⟩) (m + 8) (m + 8)] 53))) := HB6.out.alloc (by omega) _
          have kp : ∀ {b : Nat} {c : Array Value} {t : TypeId}, Blk W0 b c t → t ≠ 53 → t ≠ 71 → Blk (w7.setCell ⟨X3, 1, none⟩ (.slice va (Ls.length + 1) vc)) b c t := fun hb t1 t2 => ((hb.later HA.out (by rw [← HLW.out]; exact hb.lt)).kept HK7.out t1).kept HS8.out t2
          have kq : ∀ {b : Nat} {c : Array Value} {t : TypeId}, Blk w6 b c t → t ≠ 53 → t ≠ 71 → Blk (w7.setCell ⟨X3, 1, none⟩ (.slice va (Ls.length + 1) vc)) b c t := fun hb t1 t2 => ((hb.alloc (.cells #[.slice (some ⟨L, 0, none⟩) (m + 8) (m + 8)] 53)).kept HK7.out t1).kept HS8.out t2
          have HK08 := hide (kp HK0.out (by decide) (by decide))
          have HK18 := hide (kp HK1.out (by decide) (by decide))
          have HK28 : Hid (Blk (w7.setCell ⟨X3, 1, none⟩ (.slice va (Ls.length + 1) vc)) X2 #[.slice none 0 0, .slice none 0 0] 71) := (((HK2.out.later HA.out (by omega)).kept HK7.out (by decide))).other (by simp; omega) _
          have HT8 := hide (kp HLA.out.row (by decide) (by decide))
          have HL8 := hide (kq HL6.out (by decide) (by decide))
          have HE8 : Hid (∀ (i : Nat) (t : Tk) (L' : Nat), ts[i]? = some t → Ls[i]? = some L' → Blk (w7.setCell ⟨X3, 1, none⟩ (.slice va (Ls.length + 1) vc)) L' (flat2 (lentLims t)).toArray 52) := fun i t L' h1 h2 => kq (HLA6.out.each i t L' h1 h2) (by decide) (by decide)
          have HB8 : Hid (Below w.heap.size w (w7.setCell ⟨X3, 1, none⟩ (.slice va (Ls.length + 1) vc))) := (HBE.out.trans (HA.out.mono (by omega))).trans ((HK7.out.below (by simp; omega)).trans (HS8.out.below (by omega)))
          generalize hW8 : w7.setCell ⟨X3, 1, none⟩ (.slice va (Ls.length + 1) vc) = W8 at *
          clear hW8 HS8 HA HO7 HK37 HK7 kp kq f31 f31f
          obtain ⟨r, hr⟩ : ∃ r, n + 8 - k = r + 1 := ⟨n + 8 - k - 1, by omega⟩
          have HR := hide hr
          have HT9 : Hid (Blk W8 T (flat3 (List.zipWith lentEnt ts Ls ++ List.replicate (r + 1) zeroT)).toArray 55) := by
            have := HT8.out
            rw [HN.out, hr, show k - n = 0 from by omega] at this
            simpa [Hid] using this
          have hzl : (List.zipWith lentEnt ts Ls).length = k := by rw [zip_len _ _ _ (by rw [HLEN.out, HN.out]; omega), HLEN.out]
          have HZL := hide hzl
          have hget := flat3_get (List.zipWith lentEnt ts Ls ++ List.replicate (r + 1) zeroT) k zeroT (by rw [List.getElem?_append_right (by omega), hzl]; simp)
          have t0 : W8.cell? ⟨T, k * 3, none⟩ = some (.int .i64 0) := by rw [HT9.out.cell]; simpa [zeroT] using hget.1
          have t1 : W8.cell? ⟨T, k * 3 + 1, none⟩ = some (.int .i64 0) := by rw [HT9.out.cell]; simpa [zeroT] using hget.2.1
          have t2 : W8.cell? ⟨T, k * 3 + 2, none⟩ = some (.slice none 0 0) := by rw [HT9.out.cell]; simpa [zeroT] using hget.2.2
          have t0f := HT9.out.free (k * 3)
          have t1f := HT9.out.free (k * 3 + 1)
          have t2f := HT9.out.free (k * 3 + 2)
          have e0 : W8.cell? ⟨sb, so + k * 3, none⟩ = some (.int .i64 cost) := (HB8.out.cell (p := ⟨sb, so + k * 3, none⟩) (by simp; omega)).trans ((HBE.out.cell (p := ⟨sb, so + k * 3, none⟩) (by simp; omega)).symm.trans d0)
          have e1 : W8.cell? ⟨sb, so + k * 3 + 1, none⟩ = some (.int .i64 due) := (HB8.out.cell (p := ⟨sb, so + k * 3 + 1, none⟩) (by simp; omega)).trans ((HBE.out.cell (p := ⟨sb, so + k * 3 + 1, none⟩) (by simp; omega)).symm.trans d1)
          have e2 : W8.cell? ⟨sb, so + k * 3 + 2, none⟩ = some (.slice la m lcap) := (HB8.out.cell (p := ⟨sb, so + k * 3 + 2, none⟩) (by simp; omega)).trans ((HBE.out.cell (p := ⟨sb, so + k * 3 + 2, none⟩) (by simp; omega)).symm.trans d2)
          have g05 : W8.cell? ⟨w.heap.size, 5, none⟩ = some (.slice (some ⟨sb, so, none⟩) n scap) := HK08.out.cell 5
          have g30 : W8.cell? ⟨X3, 0, none⟩ = some (.slice (some ⟨T, 0, none⟩) (n + 8) (n + 8)) := HK38.out.cell 0
          have hne1 : T ≠ sb := by omega
          have hne2 : sb ≠ T := by omega
          have hne3 : X3 ≠ T := by omega
          have hne4 : w.heap.size ≠ T := by omega
          clear hget hzl hr d0 d1 d2 c05 c30 c31 c31f HT8
          apply wp_once
          case h =>
            go_region
            all_goals exact ⟨rfl, rfl⟩
          have S1 := HT9.out.set (k * 3) (.int .i64 cost)
          have S2 := S1.set (k * 3 + 1) (.int .i64 due)
          have S3 := S2.set (k * 3 + 2) (.slice la m lcap)
          have q1 : KeepBut 55 w.heap.size W8 (W8.setCell ⟨T, k * 3, none⟩ (.int .i64 cost)) := KeepBut.set HT9.out (by omega) _
          have q2 := q1.trans (KeepBut.set (o := k * 3 + 1) S1 (by omega) (.int .i64 due))
          have q3 := q2.trans (KeepBut.set (o := k * 3 + 2) S2 (by omega) (.slice la m lcap))
          have HQ9 : Hid (KeepBut 55 w.heap.size W8 (((W8.setCell ⟨T, k * 3, none⟩ (.int .i64 cost)).setCell ⟨T, k * 3 + 1, none⟩ (.int .i64 due)).setCell ⟨T, k * 3 + 2, none⟩ (.slice la m lcap)).drew) := q3.drew
          have HT10 : Hid (Blk (((W8.setCell ⟨T, k * 3, none⟩ (.int .i64 cost)).setCell ⟨T, k * 3 + 1, none⟩ (.int .i64 due)).setCell ⟨T, k * 3 + 2, none⟩ (.slice la m lcap)).drew T _ 55) := S3.drew
          have hz10 : (((W8.setCell ⟨T, k * 3, none⟩ (.int .i64 cost)).setCell ⟨T, k * 3 + 1, none⟩ (.int .i64 due)).setCell ⟨T, k * 3 + 2, none⟩ (.slice la m lcap)).drew.heap.size = W8.heap.size := by simp
          generalize hW9 : (((W8.setCell ⟨T, k * 3, none⟩ (.int .i64 cost)).setCell ⟨T, k * 3 + 1, none⟩ (.int .i64 due)).setCell ⟨T, k * 3 + 2, none⟩ (.slice la m lcap)).drew = W9 at *
          have h05 : W9.cell? ⟨w.heap.size, 5, none⟩ = some (.slice (some ⟨sb, so, none⟩) n scap) := (HK08.out.kept HQ9.out (by decide)).cell 5
          have h30 : W9.cell? ⟨X3, 0, none⟩ = some (.slice (some ⟨T, 0, none⟩) (n + 8) (n + 8)) := (HK38.out.kept HQ9.out (by decide)).cell 0
          have h2 : W9.cell? ⟨sb, so + k * 3 + 2, none⟩ = some (.slice la m lcap) := ((HQ9.out.below (B := w.heap.size) (by omega)).cell (p := ⟨sb, so + k * 3 + 2, none⟩) (by simp; omega)).trans e2
          have ht2 : W9.cell? ⟨T, k * 3 + 2, none⟩ = some (.slice la m lcap) := by
            have hlt := t2
            rw [HT9.out.cell] at hlt
            have hlt2 := (Array.getElem?_eq_some_iff.1 hlt).1
            rw [HT10.out.cell]
            exact get_set_self (by simpa using hlt2)
          have ht2f := HT10.out.free (k * 3 + 2)
          clear hW9 S1 S2 S3 q1 q2 q3 e0 e1 e2 g05 g30 t0 t1 t2 t0f t1f t2f
          go_wp2_with fail
          apply wp_once
          case h =>
            go_region
            all_goals exact ⟨rfl, rfl⟩
          have R1 := HT10.out.set (k * 3 + 2) (.slice (some ⟨L, 0, none⟩) m (m + 8))
          have HQ10 : Hid (KeepBut 55 w.heap.size W8 (W9.setCell ⟨T, k * 3 + 2, none⟩ (.slice (some ⟨L, 0, none⟩) m (m + 8))).drew) := (HQ9.out.trans (KeepBut.set HT10.out (by omega) _)).drew
          have HT11 : Hid (Blk (W9.setCell ⟨T, k * 3 + 2, none⟩ (.slice (some ⟨L, 0, none⟩) m (m + 8))).drew T _ 55) := R1.drew
          clear R1 h05 h30 h2 ht2 ht2f
          generalize hW10 : (W9.setCell ⟨T, k * 3 + 2, none⟩ (.slice (some ⟨L, 0, none⟩) m (m + 8))).drew = W10 at *
          clear hW10
          go_wp2
          go_roundw
          case rel =>
            refine ⟨k + 1, _, Ls ++ [L], by go_num, by omega, ⟨by simp [HLEN.out, HN.out]; omega, ?_, ?_, ?_, ?_, ?_⟩, HB8.out.trans (HQ10.out.below (by omega)), HK08.out.kept HQ10.out (by decide), HK18.out.kept HQ10.out (by decide), HK28.out.kept HQ10.out (by decide), HK38.out.kept HQ10.out (by decide)⟩
            · refine List.pairwise_append.2 ⟨HLA.out.inc, by simp, ?_⟩
              intro a ha b hb
              simp at hb
              subst hb
              have := (HLA.out.lt a ha).2
              rw [HLW.out] at this
              exact this
            · intro L' hL'
              have hz := HQ10.out.size
              rcases List.mem_append.1 hL' with h | h
              · have := HLA.out.lt L' h
                rw [HLW.out] at this
                exact ⟨this.1, by omega⟩
              · simp at h
                subst h
                exact ⟨by omega, by omega⟩
            · have := HT11.out
              rw [HN.out, show k + 1 - n = 0 from by omega, show n + 8 - (k + 1) = r from by have := HR.out; omega, zip_snoc lentEnt L HG.out HLEN.out, List.replicate_zero, List.append_nil, ← set_next (a := lentEnt ⟨cost, due, lims⟩ L) (b := zeroT) (r := r) HZL.out, flat3_set]
              simpa [lentEnt, HM.out] using this
            · rw [List.length_append, zip_snoc lentRow L HG.out HLEN.out]
              have := owns_keptT HO8.out HQ10.out (by decide)
              simpa [lentRow, HM.out] using this
            · intro i t L' h1 h2
              rcases get_snoc HLEN.out h2 with h | ⟨rfl, rfl⟩
              · exact (HE8.out i t L' h1 h).kept HQ10.out (by decide)
              · have := HG.out
                rw [h1] at this
                simp only [Option.some.injEq] at this
                subst this
                exact HL8.out.kept HQ10.out (by decide)
          case measure => simp [intOf]; omega
    · by_cases hk8 : k < n + 8
      · obtain ⟨r, hr⟩ : ∃ r, n + 8 - k = r + 1 := ⟨n + 8 - k - 1, by omega⟩
        have HR := hide hr
        have hlen : (List.zipWith lentEnt ts Ls ++ List.replicate (k - n) spareT).length = k := by
          rw [List.length_append, zip_len _ _ _ (by rw [HLA.out.len, HN.out]; omega), HLA.out.len, HN.out, List.length_replicate]; omega
        have HLN := hide hlen
        have HT9 : Hid (Blk wr T (flat3 (List.zipWith lentEnt ts Ls ++ List.replicate (k - n) spareT ++ List.replicate (r + 1) zeroT)).toArray 55) := by
          have := HLA.out.row
          rw [HN.out, hr] at this
          exact this
        have hget := flat3_get (List.zipWith lentEnt ts Ls ++ List.replicate (k - n) spareT ++ List.replicate (r + 1) zeroT) k zeroT (by rw [List.getElem?_append_right (by omega), hlen]; simp)
        have t0 : wr.cell? ⟨T, k * 3, none⟩ = some (.int .i64 0) := by rw [HT9.out.cell]; simpa [zeroT] using hget.1
        have t1 : wr.cell? ⟨T, k * 3 + 1, none⟩ = some (.int .i64 0) := by rw [HT9.out.cell]; simpa [zeroT] using hget.2.1
        have t2 : wr.cell? ⟨T, k * 3 + 2, none⟩ = some (.slice none 0 0) := by rw [HT9.out.cell]; simpa [zeroT] using hget.2.2
        have t0f := HT9.out.free (k * 3)
        have t1f := HT9.out.free (k * 3 + 1)
        have t2f := HT9.out.free (k * 3 + 2)
        clear hget hlen hr
        go_wp2
        have S1 := HT9.out.set (k * 3) (.int .i64 (-77))
        have S2 := S1.set (k * 3 + 1) (.int .i64 0)
        have S3 := S2.set (k * 3 + 2) (.slice none 0 0)
        have q1 : KeepBut 55 w.heap.size wr (wr.setCell ⟨T, k * 3, none⟩ (.int .i64 (-77))) := KeepBut.set HT9.out (by omega) _
        have q2 := q1.trans (KeepBut.set (o := k * 3 + 1) S1 (by omega) (.int .i64 0))
        have q3 := q2.trans (KeepBut.set (o := k * 3 + 2) S2 (by omega) (.slice none 0 0))
        have HQ := hide q3
        have HS := hide S3
        clear S1 S2 S3 q1 q2 q3 t0 t1 t2 t0f t1f t2f c05 c30 c31 c31f
        go_roundw
        case rel =>
          have hz := HQ.out.size
          refine ⟨k + 1, lv, Ls, by go_num, by omega, ⟨by rw [HLA.out.len, HN.out]; omega, HLA.out.inc, fun L hL => ⟨(HLA.out.lt L hL).1, Nat.lt_of_lt_of_le (HLA.out.lt L hL).2 hz⟩, ?_, owns_keptT HLA.out.lims HQ.out (by decide), fun i t L h1 h2 => (HLA.out.each i t L h1 h2).kept HQ.out (by decide)⟩, HBE.out.trans (HQ.out.below (by omega)), HK0.out.kept HQ.out (by decide), HK1.out.kept HQ.out (by decide), HK2.out.kept HQ.out (by decide), HK3.out.kept HQ.out (by decide)⟩
          have := HS.out
          rw [HN.out, show k + 1 - n = (k - n) + 1 from by omega, show n + 8 - (k + 1) = r from by have := HR.out; omega, List.replicate_succ', ← List.append_assoc, ← set_next (a := spareT) (b := zeroT) (r := r) HLN.out, flat3_set]
          simpa [spareT] using this
        case measure => simp [intOf]; omega
      · obtain rfl : k = n + 8 := by omega
        have b0 : wr.cell? ⟨w.heap.size, 0, none⟩ = some (.int .i64 x1) := HK0.out.cell 0
        have b1 : wr.cell? ⟨w.heap.size, 1, none⟩ = some (.int .i64 x2) := HK0.out.cell 1
        have b2 : wr.cell? ⟨w.heap.size, 2, none⟩ = some (.int .i64 x3) := HK0.out.cell 2
        have b3 : wr.cell? ⟨w.heap.size, 3, none⟩ = some (.int .i64 x4) := HK0.out.cell 3
        have b4 : wr.cell? ⟨w.heap.size, 4, none⟩ = some (.int .i64 x5) := HK0.out.cell 4
        obtain ⟨lva, lvc, rfl⟩ := owns_slice HLA.out.lims
        have hW0 : w.heap.size < wr.heap.size := by omega
        have a0 : wr.cell? ⟨X1, 0, none⟩ = some (.int .i64 0) := HK1.out.cell 0
        have a0f := HK1.out.free 0
        have a1 : wr.cell? ⟨X1, 1, none⟩ = some (.int .i64 0) := HK1.out.cell 1
        have a1f := HK1.out.free 1
        have a2 : wr.cell? ⟨X1, 2, none⟩ = some (.int .i64 0) := HK1.out.cell 2
        have a2f := HK1.out.free 2
        have a3 : wr.cell? ⟨X1, 3, none⟩ = some (.int .i64 0) := HK1.out.cell 3
        have a3f := HK1.out.free 3
        have a4 : wr.cell? ⟨X1, 4, none⟩ = some (.int .i64 0) := HK1.out.cell 4
        have a4f := HK1.out.free 4
        have a5 : wr.cell? ⟨X1, 5, none⟩ = some (.slice none 0 0) := HK1.out.cell 5
        have a5f := HK1.out.free 5
        have l0 : wr.cell? ⟨X2, 0, none⟩ = some (.slice none 0 0) := HK2.out.cell 0
        have l0f := HK2.out.free 0
        have l1 : wr.cell? ⟨X2, 1, none⟩ = some (.slice none 0 0) := HK2.out.cell 1
        have l1f := HK2.out.free 1
        have hx12 : X1 ≠ X2 := by omega
        have hxa : X1 < wr.heap.size := HK1.out.lt
        have hxb : X2 < wr.heap.size := HK2.out.lt
        go_wp2_with fail
        apply wp_once
        case h =>
          go_region
          all_goals exact ⟨rfl, rfl⟩
        have p0 := HK1.out
        have k0 : KeepBut 40 w.heap.size wr wr := .refl _ _ _
        have k1 := k0.trans (KeepBut.set (o := 0) p0 (by omega) (.int .i64 x1))
        have p1 := p0.set 0 (.int .i64 x1)
        have k2 := k1.trans (KeepBut.set (o := 1) p1 (by omega) (.int .i64 x2))
        have p2 := p1.set 1 (.int .i64 x2)
        have k3 := k2.trans (KeepBut.set (o := 2) p2 (by omega) (.int .i64 x3))
        have p3 := p2.set 2 (.int .i64 x3)
        have k4 := k3.trans (KeepBut.set (o := 3) p3 (by omega) (.int .i64 x4))
        have p4 := p3.set 3 (.int .i64 x4)
        have k5 := k4.trans (KeepBut.set (o := 4) p4 (by omega) (.int .i64 x5))
        have p5 := p4.set 4 (.int .i64 x5)
        have k6 := k5.trans (KeepBut.set (o := 5) p5 (by omega) (.slice (some ⟨T, 0, none⟩) n (n + 8)))
        have p6 := p5.set 5 (.slice (some ⟨T, 0, none⟩) n (n + 8))
        have q0 := HK2.out.other (a := ⟨X1, 0, none⟩) (by simp; omega) (.int .i64 x1) |>.other (a := ⟨X1, 1, none⟩) (by simp; omega) (.int .i64 x2) |>.other (a := ⟨X1, 2, none⟩) (by simp; omega) (.int .i64 x3) |>.other (a := ⟨X1, 3, none⟩) (by simp; omega) (.int .i64 x4) |>.other (a := ⟨X1, 4, none⟩) (by simp; omega) (.int .i64 x5) |>.other (a := ⟨X1, 5, none⟩) (by simp; omega) (.slice (some ⟨T, 0, none⟩) n (n + 8))
        have m1 := KeepBut.set (o := 0) (B := w.heap.size) q0 (by omega) (.slice (some ⟨T, 0, none⟩) (n + 8) (n + 8))
        have q1 := q0.set 0 (.slice (some ⟨T, 0, none⟩) (n + 8) (n + 8))
        have m2 := m1.trans (KeepBut.set (o := 1) q1 (by omega) (.slice lva Ls.length lvc))
        have q2 := q1.set 1 (.slice lva Ls.length lvc)
        have p8 := (p6.other (a := ⟨X2, 0, none⟩) (by simp; omega) (.slice (some ⟨T, 0, none⟩) (n + 8) (n + 8))).other (a := ⟨X2, 1, none⟩) (by simp; omega) (.slice lva Ls.length lvc)
        have HLF := hide ((HLA.out.kept k6 (by decide) (by decide) (by decide)).kept m2 (by decide) (by decide) (by decide))
        have HBF := hide ((HBE.out.trans (k6.below (by omega))).trans (m2.below (by simp; omega)))
        have HP := hide p8
        have HQ := hide q2
        clear p0 p1 p2 p3 p4 p5 p6 p8 k0 k1 k2 k3 k4 k5 k6 q0 q1 q2 m1 m2
        have hzs : ((((((((wr.setCell ⟨X1, 0, none⟩ (.int .i64 x1)).setCell ⟨X1, 1, none⟩ (.int .i64 x2)).setCell ⟨X1, 2, none⟩ (.int .i64 x3)).setCell ⟨X1, 3, none⟩ (.int .i64 x4)).setCell ⟨X1, 4, none⟩ (.int .i64 x5)).setCell ⟨X1, 5, none⟩ (.slice (some ⟨T, 0, none⟩) n (n + 8))).setCell ⟨X2, 0, none⟩ (.slice (some ⟨T, 0, none⟩) (n + 8) (n + 8))).setCell ⟨X2, 1, none⟩ (.slice lva Ls.length lvc)).heap.size = wr.heap.size := by simp
        generalize hWS : ((((((((wr.setCell ⟨X1, 0, none⟩ (.int .i64 x1)).setCell ⟨X1, 1, none⟩ (.int .i64 x2)).setCell ⟨X1, 2, none⟩ (.int .i64 x3)).setCell ⟨X1, 3, none⟩ (.int .i64 x4)).setCell ⟨X1, 4, none⟩ (.int .i64 x5)).setCell ⟨X1, 5, none⟩ (.slice (some ⟨T, 0, none⟩) n (n + 8))).setCell ⟨X2, 0, none⟩ (.slice (some ⟨T, 0, none⟩) (n + 8) (n + 8))).setCell ⟨X2, 1, none⟩ (.slice lva Ls.length lvc)) = WS at *
        clear hWS
        have HP2 := (HP.out.alloc (.cells #[.int .i64 x1, .int .i64 x2, .int .i64 x3, .int .i64 x4, .int .i64 x5, .slice (some ⟨T, 0, none⟩) n (n + 8)] 40)).drew
        have HQ2 := (HQ.out.alloc (.cells #[.int .i64 x1, .int .i64 x2, .int .i64 x3, .int .i64 x4, .int .i64 x5, .slice (some ⟨T, 0, none⟩) n (n + 8)] 40)).drew
        have HF0 := HP2.cell 0
        have HF1 := HP2.cell 1
        have HF2 := HP2.cell 2
        have HF3 := HP2.cell 3
        have HF4 := HP2.cell 4
        have HF5 := HP2.cell 5
        have HG0 := HQ2.cell 0
        have HG1 := HQ2.cell 1
        simp at HF0 HF1 HF2 HF3 HF4 HF5 HG0 HG1
        have HA : Below WS.heap.size WS (WS.alloc (.cells #[.int .i64 x1, .int .i64 x2, .int .i64 x3, .int .i64 x4, .int .i64 x5, .slice (some ⟨T, 0, none⟩) n (n + 8)] 40)).drew := ((Below.refl _ _).alloc (Nat.le_refl _) _).drew
        repeat (first | go_values | go_skip | go_guarded | go_step | go_upon)
        refine bodyPost_ret (v := .tuple #[.agg #[.int .i64 x1, .int .i64 x2, .int .i64 x3, .int .i64 x4, .int .i64 x5, .slice (some ⟨T, 0, none⟩) n (n + 8)], .agg #[.slice (some ⟨T, 0, none⟩) (n + 8) (n + 8), .slice lva Ls.length lvc]]) (by simp [results, Tryz.results22, go_sem, HF0, HF1, HF2, HF3, HF4, HF5, HG0, HG1]) rfl ⟨T, _, Ls, rfl, ?_, by omega, HBF.out.trans (HA.mono (by omega))⟩
        exact HLF.out.below HA

end Go.Proofs.YthloffgebebijaaGreat
