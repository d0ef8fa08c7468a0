/- LentA: a configuration that was lent: its lists, as they lie in memory. A law for copies of elements of several cells. -/
import Derived.Test.YthloffgebebijaaGreatBookB
import Derived.Test.YthloffgebebijaaGreatSetA
import Derived.Laws.CopyOwn
namespace Go.Proofs.YthloffgebebijaaGreat
open Go.RowKit

theorem run_copy_wide {P : Program} (w : World) (dT sT ty elem : TypeId) (size g dLen dCap m sCap : Nat) (sp : Option Addr) (cur : Array Value) (t : TypeId) (cs : List Value)
    (hu : P.underlying dT = some (.slice elem)) (hs : (P.info? elem).map (·.size) = some size) (hg : w.heap[g]? = some (.cells cur t (0, 0))) (hm : m ≤ dLen) (hn : cs.length = m * size)
    (hsrc : 0 < m → ∃ a, sp = some a ∧ ∀ j v, cs[j]? = some v → w.cell? (a.add j) = some v) (hfit : cs.length ≤ cur.size) (h1 : ∀ v ∈ cs, v.oneCell' = true) :
    (Builtin.copy_ #[dT, sT] ty #[.slice (some ⟨g, 0, none⟩) dLen dCap, .slice sp m sCap]).run P w = .ok (goInt m) (w.setRow g (cs ++ cur.toList.drop cs.length).toArray) := by
  cases hq : P.info? elem with
  | none => simp [hq] at hs
  | some i =>
    have hi : i.size = size := by simpa [hq] using hs
    have hmin : Nat.min m dLen = m := Nat.min_eq_left hm
    by_cases h0 : m = 0
    · subst h0
      obtain rfl : cs = [] := List.eq_nil_of_length_eq_zero (by omega)
      have he : w.setRow g cur = w := setRow_self w g cur t (0, 0) hg
      cases sp with
      | none => simp [Builtin.copy_, run_underlying hu, Builtin.lenOf, Builtin.firstCells, sizeOf, typeInfo, hq, hmin, storeCells, he]
      | some a => simp [Builtin.copy_, run_underlying hu, Builtin.lenOf, Builtin.firstCells, sizeOf, typeInfo, hq, hmin, loadCells, loadCellsFrom, storeCells, he]
    · obtain ⟨a, rfl, hsrc'⟩ := hsrc (by omega)
      have hl := run_loadCells_list (P := P) w a cs hsrc'
      have hst := run_storeCells_at P g 0 t cs 0 cur w hg (by simpa using hfit) h1
      simp only [Nat.zero_add, List.take_zero, List.nil_append] at hst
      simp [Builtin.copy_, run_underlying hu, Builtin.lenOf, Builtin.firstCells, sizeOf, typeInfo, hq, hi, hmin, ← hn, hl, hst]

theorem wpList_copy_wide {P : Program} {w : World} {ops : Array Oper} {rest : List Oper} {o : Oper} {a : Act} {Q : Exit → Act → World → Prop} (hgd : o.guard = none) (d s : Operand) (dT sT : TypeId)
    (ho : o.op = .call { callee := .builtin .copy, args := #[d, s], argTypes := #[dT, sT] }) (elem : TypeId) (size : Nat) (hu : P.underlying dT = some (.slice elem)) (hsz : (P.info? elem).map (·.size) = some size)
    (g dLen dCap m sCap : Nat) (sp : Option Addr) (hd : a.eval d = .slice (some ⟨g, 0, none⟩) dLen dCap) (hs : a.eval s = .slice sp m sCap)
    (cur : List Value) (t : TypeId) (hg : Blk w g cur.toArray t) (cs : List Value) (hm : m ≤ dLen) (hn : cs.length = m * size)
    (hsrc : 0 < m → ∃ a, sp = some a ∧ ∀ j v, cs[j]? = some v → w.cell? (a.add j) = some v) (hfit : cs.length ≤ cur.length) (h1 : ∀ v ∈ cs, v.oneCell' = true)
    (h : ∀ w', Hid (Blk w' g (cs ++ cur.drop cs.length).toArray t) → Hid (w.grownBy w' (some g)) → wpList P ops Q rest (a.put o.dst (goInt m)) w') : wpList P ops Q (o :: rest) a w := by
  refine wpList_plain hgd fun K hK => ?_
  have hrun := run_copy_wide (P := P) w dT sT o.type elem size g dLen dCap m sCap sp cur.toArray t cs hu hsz hg hm hn hsrc (by simpa using hfit) h1
  unfold Oper.wp
  simp [execOp, ho, resolve, invoke, builtin, hd, hs, hrun, Result.andThen]
  exact hK _ _ (h _ (setRow_heap w g _ _ t _ hg) ⟨rfl, rfl, rfl, by simp, fun k _ hk => setRow_other w g k _ (fun e => hk (by simp [e]))⟩)

theorem info_lims : (Tryz.prog.info? 53).map (fun i => (i.zero, i.size, i.bytes)) = some (some (.slice none 0 0), 1, 24) := by kernel_rfl

def lentEnt (t : Tk) (L : Nat) : Int × Int × Value := (t.cost, t.due, .slice (some ⟨L, 0, none⟩) t.lims.length (t.lims.length + 8))
def lentRow (t : Tk) (L : Nat) : Value := .slice (some ⟨L, 0, none⟩) (t.lims.length + 8) (t.lims.length + 8)
def spareT : Int × Int × Value := (-77, 0, .slice none 0 0)
def zeroT : Int × Int × Value := (0, 0, .slice none 0 0)
def lentLims (t : Tk) : List (Int × Int) := t.lims ++ List.replicate 8 (-77, 0)

/-- What was lent so far: k entries of n + 8. -/
structure LentAt (w : World) (H T : Nat) (lv : Value) (ts : List Tk) (k : Nat) (Ls : List Nat) : Prop where
  len : Ls.length = min k ts.length
  inc : Ls.Pairwise (· < ·)
  lt : ∀ L ∈ Ls, T < L ∧ L < w.heap.size
  row : Blk w T (flat3 (List.zipWith lentEnt ts Ls ++ List.replicate (k - ts.length) spareT ++ List.replicate (ts.length + 8 - k) zeroT)).toArray 55
  lims : w.ownsRow H 53 1 lv Ls.length (List.zipWith lentRow ts Ls)
  each : ∀ (i : Nat) (t : Tk) (L : Nat), ts[i]? = some t → Ls[i]? = some L → Blk w L (flat2 (lentLims t)).toArray 52

theorem LentAt.below {w w' : World} {H T k : Nat} {lv : Value} {ts : List Tk} {Ls : List Nat} (h : LentAt w H T lv ts k Ls) (hb : Below w.heap.size w w') : LentAt w' H T lv ts k Ls :=
  ⟨h.len, h.inc, fun L hL => ⟨(h.lt L hL).1, Nat.lt_of_lt_of_le (h.lt L hL).2 hb.size⟩, h.row.later hb h.row.lt, owns_below h.lims hb, fun i t L h1 h2 => (h.each i t L h1 h2).later hb (h.each i t L h1 h2).lt⟩

theorem set_next {α : Type} {xs : List α} {k r : Nat} {a b : α} (h : xs.length = k) : (xs ++ List.replicate (r + 1) b).set k a = xs ++ [a] ++ List.replicate r b := by
  rw [List.set_append_right _ _ (by omega), h]
  simp [List.replicate_succ]
theorem flat2_append (a b : List (Int × Int)) : flat2 (a ++ b) = flat2 a ++ flat2 b := by simp [flat2, List.flatMap_append]
theorem flat2_drop_rep (m r : Nat) (x : Int × Int) : (flat2 (List.replicate (m + r) x)).drop (2 * m) = flat2 (List.replicate r x) := by
  have h : List.replicate (m + r) x = List.replicate m x ++ List.replicate r x := List.replicate_append_replicate.symm
  rw [h, flat2_append, List.drop_left' (by rw [flat2_length, List.length_replicate])]
theorem flat2_one (ls : List (Int × Int)) : ∀ u ∈ flat2 ls, u.oneCell' = true := by
  intro u hu
  simp only [flat2, List.mem_flatMap] at hu
  obtain ⟨l, _, hl⟩ := hu
  simp at hl
  rcases hl with rfl | rfl <;> rfl
theorem flat2_cells {w : World} {b o : Nat} {ls : List (Int × Int)} (h : ∀ i l, ls[i]? = some l → LimAt w b (o + i * 2) l) : ∀ (j : Nat) (v : Value), (flat2 ls)[j]? = some v → w.cell? ⟨b, o + j, none⟩ = some v := by
  intro j v hv
  have hlt := lt_of_get hv
  rw [flat2_length] at hlt
  obtain ⟨l, hl⟩ := get_of_lt (l := ls) (k := j / 2) (by omega)
  have hg := flat2_get ls (j / 2) l hl
  have hc := h _ _ hl
  rcases Nat.mod_two_eq_zero_or_one j with h2 | h2
  · have e : 2 * (j / 2) = j := by omega
    rw [e] at hg
    have := hg.1.symm.trans hv
    simp only [Option.some.injEq] at this
    rw [← this, show o + j = o + j / 2 * 2 from by omega]
    exact hc.1
  · have e : 2 * (j / 2) + 1 = j := by omega
    rw [e] at hg
    have := hg.2.symm.trans hv
    simp only [Option.some.injEq] at this
    rw [← this, show o + j = o + j / 2 * 2 + 1 from by omega]
    exact hc.2
theorem zip_snoc {α β γ : Type} (f : α → β → γ) {ts : List α} {Ls : List β} {k : Nat} {t : α} (L : β) (h : ts[k]? = some t) (hl : Ls.length = k) : List.zipWith f ts (Ls ++ [L]) = List.zipWith f ts Ls ++ [f t L] := by
  induction ts generalizing Ls k with
  | nil => simp at h
  | cons a r ih =>
    cases Ls with
    | nil =>
      simp only [List.length_nil] at hl
      subst hl
      simp at h
      subst h
      cases r <;> simp
    | cons b q =>
      simp only [List.length_cons] at hl
      obtain ⟨j, rfl⟩ : ∃ j, k = j + 1 := ⟨k - 1, by omega⟩
      simp at h
      have hq : q.length = j := by omega
      simp only [List.cons_append, List.zipWith_cons_cons, ih h hq]
theorem zip_len {α β γ : Type} (f : α → β → γ) (ts : List α) (Ls : List β) (h : Ls.length ≤ ts.length) : (List.zipWith f ts Ls).length = Ls.length := by simp; omega
theorem get_snoc {α : Type} {Ls : List α} {k i : Nat} {L x : α} (hl : Ls.length = k) (h : (Ls ++ [L])[i]? = some x) : Ls[i]? = some x ∨ i = k ∧ x = L := by
  rw [List.getElem?_append] at h
  split at h
  · exact .inl h
  · rename_i hlt
    right
    by_cases e : i = k
    · subst e
      simp [hl] at h
      exact ⟨rfl, h.symm⟩
    · rw [List.getElem?_eq_none (by simp; omega)] at h
      simp at h

theorem get_set_self {a : Array Value} {i : Nat} {v : Value} (h : i < a.size) : (a.setIfInBounds i v)[i]? = some v := by
  rw [Array.getElem?_setIfInBounds]
  simp [h]

theorem LentAt.kept {w w' : World} {H T k B : Nat} {lv : Value} {ts : List Tk} {Ls : List Nat} {e : TypeId} (h : LentAt w H T lv ts k Ls) (hk : KeepBut e B w w') (h1 : 55 ≠ e) (h2 : 52 ≠ e) (h3 : 53 ≠ e) : LentAt w' H T lv ts k Ls :=
  ⟨h.len, h.inc, fun L hL => ⟨(h.lt L hL).1, Nat.lt_of_lt_of_le (h.lt L hL).2 hk.size⟩, h.row.kept hk h1, owns_keptT h.lims hk h3, fun i t L q1 q2 => (h.each i t L q1 q2).kept hk h2⟩

theorem owns_cell1 {w : World} {base : Nat} {e : TypeId} {n k : Nat} {v u : Value} {xs : List Value} (h : w.ownsRow base e 1 v n xs) (hk : xs[k]? = some u) : ∃ g cap, v = .slice (some ⟨g, 0, none⟩) n cap ∧ base ≤ g ∧ g < w.heap.size ∧ w.cell? ⟨g, k, none⟩ = some u ∧ k < n := by
  have hlt := lt_of_get hk
  rw [h.1] at hlt
  rcases h.2 with ⟨_, h0⟩ | ⟨g, cap, cur, hv, hb, hg, _, _, _, ht⟩
  · omega
  · refine ⟨g, cap, hv, hb, lt_of_block hg, ?_, by omega⟩
    rw [cell_of_row w g k cur e (0, 0) hg]
    rw [← ht, List.getElem?_take, if_pos hlt] at hk
    simpa using hk

/-- What was lent reads as it was. -/
theorem LentAt.tasks {w : World} {H T : Nat} {lv : Value} {ts : List Tk} {Ls : List Nat} (h : LentAt w H T lv ts (ts.length + 8) Ls) : Tasks w w.heap.size (.slice (some ⟨T, 0, none⟩) ts.length (ts.length + 8)) ts := by
  have hlen : Ls.length = ts.length := by have := h.len; omega
  refine ⟨_, _, rfl, .inr ⟨T, 0, rfl, h.row.lt, fun i t ht => ?_⟩⟩
  obtain ⟨L, hL⟩ := get_of_lt (l := Ls) (k := i) (by have := lt_of_get ht; omega)
  have hg := flat3_get (List.zipWith lentEnt ts Ls ++ List.replicate (ts.length + 8 - ts.length) spareT ++ List.replicate (ts.length + 8 - (ts.length + 8)) zeroT) i (lentEnt t L) (by
    have hi := lt_of_get ht
    rw [List.append_assoc, List.getElem?_append_left (by rw [zip_len _ _ _ (by omega)]; omega), List.getElem?_zipWith, ht, hL])
  have hc := fun j => h.row.cell (i * 3 + j)
  have hB := h.each i t L ht hL
  refine ⟨?_, ?_, .slice (some ⟨L, 0, none⟩) t.lims.length (t.lims.length + 8), ?_, _, _, rfl, .inr ⟨L, 0, rfl, hB.lt, fun q l hq => ?_⟩⟩
  · rw [Nat.zero_add]; exact (hc 0).trans (by simpa [lentEnt] using hg.1)
  · rw [Nat.zero_add]; exact (hc 1).trans (by simpa [lentEnt] using hg.2.1)
  · rw [Nat.zero_add]; exact (hc 2).trans (by simpa [lentEnt] using hg.2.2)
  · have := flat2_get (lentLims t) q l (by unfold lentLims; rw [List.getElem?_append_left (lt_of_get hq)]; exact hq)
    rw [Nat.mul_comm] at this
    exact ⟨by rw [Nat.zero_add, hB.cell]; simpa using this.1, by rw [Nat.zero_add, hB.cell]; simpa using this.2⟩

end Go.Proofs.YthloffgebebijaaGreat
