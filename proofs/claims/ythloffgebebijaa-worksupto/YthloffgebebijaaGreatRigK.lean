/- RigA: the world of a script with executives, the program's and the reference's: who owns which block. -/
import Derived.Test.YthloffgebebijaaGreatRexG
import Derived.Test.YthloffgebebijaaGreatBookK
import Derived.Test.YthloffgebebijaaGreatRndJ
import Derived.Test.YthloffgebebijaaGreatRndG
import Derived.Deep.LoopGhost
import Derived.Test.YthloffgebebijaaGreatOwnEK
import Derived.Test.YthloffgebebijaaGreatStrK
import Derived.Test.YthloffgebebijaaGreatPickA
import Derived.Test.YthloffgebebijaaGreatEncW
import Derived.Laws.IdiomStrings
namespace Go.Proofs.YthloffgebebijaaGreat
open Go.RowKit Go.MuLone

def prow (es : List (Nat × Nat)) : List Value := (es.map fun e => [Value.pointer (some ⟨e.1, 0, none⟩), Value.pointer (some ⟨e.2, 0, none⟩)]).flatten
theorem prow_append (a b : List (Nat × Nat)) : prow (a ++ b) = prow a ++ prow b := by simp [prow]

/-- own: 0: nobody's; 1: the book's; 2: the list of pairs'; 3 and twice i: the program's executive i; 4 and twice i: the reference's. Q: what a reference keeps lies below it. -/
structure Rig (w : World) (own : Nat → Nat) (B Q : Nat) (psv : Value) (nb ni ne nl nt : Nat) (es : List (Nat × Nat)) (xs ys : List Exs) : Prop where
  lo : ∀ k, own k ≠ 0 → B ≤ k ∧ k < w.heap.size
  qs : Q ≤ w.heap.size
  bk : BookAt w (fun k => own k = 1) B B psv nb ni ne nl nt
  row : w.ownsRow B 49 2 psv es.length (prow es)
  ro : ∀ k, psv.ownBlock = some k → own k = 2
  lx : xs.length = es.length
  ly : ys.length = es.length
  px : ∀ (i : Nat) e x, es[i]? = some e → xs[i]? = some x → ∃ b, b ≤ w.heap.size ∧ Xec w (fun k => own k = 3 + 2 * i) b e.1 x
  py : ∀ (i : Nat) e y, es[i]? = some e → ys[i]? = some y → ∃ b T, b ≤ w.heap.size ∧ (∀ k, T k → own k = 0 ∧ k < Q) ∧ Rec w (fun k => own k = 4 + 2 * i) T b e.2 y

theorem BookAt.wide {w : World} {S S' : Nat → Prop} {B W : Nat} {ps : Value} {nb ni ne nl nt : Nat} (h : BookAt w S B W ps nb ni ne nl nt) (hS : ∀ k, S k → S' k) (hlo : ∀ k, S' k → B ≤ k ∧ k < w.heap.size) : BookAt w S' B W ps nb ni ne nl nt := by
  obtain ⟨h1, h2, vb, vi, ve, vl, vt, hb, e1, e2, e3, e4, e5⟩ := h
  exact ⟨hlo, hS W h2, vb, vi, ve, vl, vt, hb, e1.same (fun _ _ => rfl) hS, e2.same (fun _ _ => rfl) hS, e3.same (fun _ _ => rfl) hS, e4.same (fun _ _ => rfl) hS, e5.same (fun _ _ => rfl) hS⟩

section
variable {w w' : World} {own : Nat → Nat} {B Q : Nat} {psv : Value} {nb ni ne nl nt : Nat} {es : List (Nat × Nat)} {xs ys : List Exs}
/-- Some blocks turn that are nobody's. -/
theorem Rig.quiet (p : Rig w own B Q psv nb ni ne nl nt es xs ys) {X : Nat → Prop} (hf : Fr X w w') (hX : ∀ k, X k → own k = 0 ∧ Q ≤ k) : Rig w' own B Q psv nb ni ne nl nt es xs ys := by
  have hz := hf.size
  have hk : ∀ k, own k ≠ 0 → w'.heap[k]? = w.heap[k]? := fun k e => hf.block k (p.lo k e).2 fun e' => e (hX k e').1
  refine ⟨fun k e => ⟨(p.lo k e).1, Nat.lt_of_lt_of_le (p.lo k e).2 hz⟩, Nat.le_trans p.qs hz, p.bk.same (fun k e => hk k (by rw [e]; decide)) hz, ownsRow_same p.row fun k e => hk k (by rw [p.ro k e]; decide), p.ro, p.lx, p.ly, fun i e x he hx => ?_, fun i e y he hy => ?_⟩
  · obtain ⟨b, hb, hx'⟩ := p.px i e x he hx
    exact ⟨b, Nat.le_trans hb hz, hx'.same fun k e => hk k (by rw [e]; omega)⟩
  · obtain ⟨b, T, hb, hT, hy'⟩ := p.py i e y he hy
    refine ⟨b, T, Nat.le_trans hb hz, hT, hy'.same (fun k e => ?_) hz⟩
    rcases e with e | e
    · exact hk k (by rw [e]; omega)
    · have h1 := hT k e
      have h2 := p.qs
      exact hf.block k (by omega) fun e' => by have := (hX k e').2; omega
theorem Rig.below (p : Rig w own B Q psv nb ni ne nl nt es xs ys) (hb : Below w.heap.size w w') : Rig w' own B Q psv nb ni ne nl nt es xs ys :=
  p.quiet (X := fun _ => False) (Fr.of_below hb) fun _ e => e.elim
open Classical in
/-- The owner of what is new. -/
noncomputable def newOwn (own : Nat → Nat) (w w' : World) (S' : Nat → Prop) (j : Nat) : Nat → Nat := fun k => if w.heap.size ≤ k ∧ k < w'.heap.size ∧ S' k then j else own k
theorem newOwn_old {S' : Nat → Prop} {j k : Nat} (h : k < w.heap.size) : newOwn own w w' S' j k = own k := by
  unfold newOwn
  rw [if_neg (fun e => by omega)]
theorem newOwn_cases {S' : Nat → Prop} {j : Nat} (k : Nat) : (newOwn own w w' S' j k = j ∧ w.heap.size ≤ k ∧ k < w'.heap.size ∧ S' k) ∨ newOwn own w w' S' j k = own k := by
  unfold newOwn
  split
  · rename_i h; exact .inl ⟨rfl, h⟩
  · exact .inr rfl
theorem newOwn_in {S' : Nat → Prop} {j k : Nat} (h : w.heap.size ≤ k) (h2 : k < w'.heap.size) (h3 : S' k) : newOwn own w w' S' j k = j := by
  unfold newOwn
  rw [if_pos ⟨h, h2, h3⟩]

/-- What all turns have in common: the blocks of one owner turn, and it takes some new ones. -/
theorem Rig.keep (p : Rig w own B Q psv nb ni ne nl nt es xs ys) {j : Nat} {S' : Nat → Prop} (hj : j ≠ 0) (hB : B ≤ w.heap.size) (hf : Fr (fun k => own k = j) w w') :
    (∀ k, newOwn own w w' S' j k ≠ 0 → B ≤ k ∧ k < w'.heap.size) ∧ (∀ q, q ≠ j → q ≠ 0 → ∀ k, own k = q → newOwn own w w' S' j k = q ∧ w'.heap[k]? = w.heap[k]?) ∧ (∀ q, q ≠ j → ∀ k, newOwn own w w' S' j k = q → own k = q) ∧ (∀ k, own k = 0 → k < Q → newOwn own w w' S' j k = 0 ∧ w'.heap[k]? = w.heap[k]?) := by
  have hz := hf.size
  have hq := p.qs
  refine ⟨fun k e => ?_, fun q h1 h2 k e => ?_, fun q h1 k e => ?_, fun k e hk => ?_⟩
  · rcases newOwn_cases (own := own) (w := w) (w' := w') (S' := S') (j := j) k with h | h
    · exact ⟨by omega, h.2.2.1⟩
    · rw [h] at e
      exact ⟨(p.lo k e).1, Nat.lt_of_lt_of_le (p.lo k e).2 hz⟩
  · have hl := (p.lo k (by rw [e]; exact h2)).2
    exact ⟨by rw [newOwn_old hl]; exact e, hf.block k hl fun e' => h1 (e.symm.trans e')⟩
  · rcases newOwn_cases (own := own) (w := w) (w' := w') (S' := S') (j := j) k with h | h
    · exact absurd (h.1.symm.trans e).symm h1
    · rw [h] at e; exact e
  · exact ⟨by rw [newOwn_old (by omega)]; exact e, hf.block k (by omega) fun e' => hj (e'.symm.trans e)⟩
/-- A call of the program's executive i. -/
theorem Rig.turnX (p : Rig w own B Q psv nb ni ne nl nt es xs ys) (hB : B ≤ w.heap.size) {i : Nat} {e : Nat × Nat} {x' : Exs} {b : Nat} {S' : Nat → Prop} (he : es[i]? = some e) (hb : b ≤ w.heap.size) (hx : Xec w' S' b e.1 x') (hs : ∀ k, S' k → own k = 3 + 2 * i ∨ w.heap.size ≤ k) (hf : Fr (fun k => own k = 3 + 2 * i) w w') :
    Rig w' (newOwn own w w' S' (3 + 2 * i)) B Q psv nb ni ne nl nt es (xs.set i x') ys := by
  have hz := hf.size
  obtain ⟨k1, k2, k3, k4⟩ := p.keep (S' := S') (by omega) hB hf
  have hil := lt_of_get he
  refine ⟨k1, Nat.le_trans p.qs hz, ?_, ownsRow_same p.row fun k e => (k2 2 (by omega) (by decide) k (p.ro k e)).2, fun k e => (k2 2 (by omega) (by decide) k (p.ro k e)).1, by rw [List.length_set]; exact p.lx, p.ly, fun i' e' x he' hx' => ?_, fun i' e' y he' hy' => ?_⟩
  · refine (p.bk.same (fun k e => (k2 1 (by omega) (by decide) k e).2) hz).wide (fun k e => (k2 1 (by omega) (by decide) k e).1) fun k e => ?_
    have := k3 1 (by omega) k e
    exact ⟨(p.lo k (by rw [this]; decide)).1, Nat.lt_of_lt_of_le (p.lo k (by rw [this]; decide)).2 hz⟩
  · by_cases h : i' = i
    · subst h
      rw [List.getElem?_set_self (by rw [p.lx]; exact hil)] at hx'
      simp only [Option.some.injEq] at hx'
      subst hx'
      rw [he] at he'
      simp only [Option.some.injEq] at he'
      subst he'
      refine ⟨b, Nat.le_trans hb hz, hx.mono fun k hk e => ?_⟩
      by_cases hkw : k < w.heap.size
      · rw [newOwn_old hkw]
        exact (hs k e).elim id fun e => by omega
      · exact newOwn_in (by omega) hk e
    · rw [List.getElem?_set_ne (fun e => h e.symm)] at hx'
      obtain ⟨b', hb', hxx⟩ := p.px i' e' x he' hx'
      have h2 := k2 (3 + 2 * i') (by omega) (by omega)
      exact ⟨b', Nat.le_trans hb' hz, (hxx.same fun k e => (h2 k e).2).mono fun k _ e => (h2 k e).1⟩
  · obtain ⟨b', T, hb', hT, hyy⟩ := p.py i' e' y he' hy'
    have h2 := k2 (4 + 2 * i') (by omega) (by omega)
    refine ⟨b', T, Nat.le_trans hb' hz, fun k e => ⟨(k4 k (hT k e).1 (hT k e).2).1, (hT k e).2⟩, (hyy.same (fun k e => e.elim (fun e => (h2 k e).2) fun e => (k4 k (hT k e).1 (hT k e).2).2) hz).mono (fun k _ e => (h2 k e).1) fun k e e' => ?_⟩
    rw [(k4 k (hT k e).1 (hT k e).2).1] at e'
    omega
/-- A call of the reference's executive i. -/
theorem Rig.turnY (p : Rig w own B Q psv nb ni ne nl nt es xs ys) (hB : B ≤ w.heap.size) {i : Nat} {e : Nat × Nat} {y' : Exs} {b : Nat} {S' T : Nat → Prop} (he : es[i]? = some e) (hb : b ≤ w.heap.size) (hT0 : ∀ k, T k → own k = 0 ∧ k < Q) (hy : Rec w' S' T b e.2 y') (hs : ∀ k, S' k → own k = 4 + 2 * i ∨ w.heap.size ≤ k) (hf : Fr (fun k => own k = 4 + 2 * i) w w') :
    Rig w' (newOwn own w w' S' (4 + 2 * i)) B Q psv nb ni ne nl nt es xs (ys.set i y') := by
  have hz := hf.size
  obtain ⟨k1, k2, k3, k4⟩ := p.keep (S' := S') (by omega) hB hf
  have hil := lt_of_get he
  refine ⟨k1, Nat.le_trans p.qs hz, ?_, ownsRow_same p.row fun k e => (k2 2 (by omega) (by decide) k (p.ro k e)).2, fun k e => (k2 2 (by omega) (by decide) k (p.ro k e)).1, p.lx, by rw [List.length_set]; exact p.ly, fun i' e' x he' hx' => ?_, fun i' e' y he' hy' => ?_⟩
  · refine (p.bk.same (fun k e => (k2 1 (by omega) (by decide) k e).2) hz).wide (fun k e => (k2 1 (by omega) (by decide) k e).1) fun k e => ?_
    have := k3 1 (by omega) k e
    exact ⟨(p.lo k (by rw [this]; decide)).1, Nat.lt_of_lt_of_le (p.lo k (by rw [this]; decide)).2 hz⟩
  · obtain ⟨b', hb', hxx⟩ := p.px i' e' x he' hx'
    have h2 := k2 (3 + 2 * i') (by omega) (by omega)
    exact ⟨b', Nat.le_trans hb' hz, (hxx.same fun k e => (h2 k e).2).mono fun k _ e => (h2 k e).1⟩
  · by_cases h : i' = i
    · subst h
      rw [List.getElem?_set_self (by rw [p.ly]; exact hil)] at hy'
      simp only [Option.some.injEq] at hy'
      subst hy'
      rw [he] at he'
      simp only [Option.some.injEq] at he'
      subst he'
      refine ⟨b, T, Nat.le_trans hb hz, fun k e => ⟨(k4 k (hT0 k e).1 (hT0 k e).2).1, (hT0 k e).2⟩, hy.mono (fun k hk e => ?_) fun k e e' => ?_⟩
      · by_cases hkw : k < w.heap.size
        · rw [newOwn_old hkw]
          exact (hs k e).elim id fun e => by omega
        · exact newOwn_in (by omega) hk e
      · rw [(k4 k (hT0 k e).1 (hT0 k e).2).1] at e'
        omega
    · rw [List.getElem?_set_ne (fun e => h e.symm)] at hy'
      obtain ⟨b', T', hb', hT, hyy⟩ := p.py i' e' y he' hy'
      have h2 := k2 (4 + 2 * i') (by omega) (by omega)
      refine ⟨b', T', Nat.le_trans hb' hz, fun k e => ⟨(k4 k (hT k e).1 (hT k e).2).1, (hT k e).2⟩, (hyy.same (fun k e => e.elim (fun e => (h2 k e).2) fun e => (k4 k (hT k e).1 (hT k e).2).2) hz).mono (fun k _ e => (h2 k e).1) fun k e e' => ?_⟩
      rw [(k4 k (hT k e).1 (hT k e).2).1] at e'
      omega
end

end Go.Proofs.YthloffgebebijaaGreat

/- RigB: the walks of tillerlaw's sameEvents and sameCounts; the reference's Counts. -/
namespace Go.Proofs.YthloffgebebijaaGreat
open Go.RowKit

theorem EvP.rd {w : World} {base : Nat} {v : Value} {d : List Ev} (p : EvP w base v d) {i : Nat} {ev : Ev} (hev : d[i]? = some ev) : ∃ dg dc, v = .slice (some ⟨dg, 0, none⟩) d.length dc ∧ dg < w.heap.size ∧ w.cell? ⟨dg, i * 5, none⟩ = some (.int .i64 ev.kind) ∧ w.cell? ⟨dg, i * 5 + 1, none⟩ = some (.int .i64 ev.tick) ∧ w.cell? ⟨dg, i * 5 + 2, none⟩ = some (.int .i64 ev.job) ∧ w.cell? ⟨dg, i * 5 + 3, none⟩ = some (.int .i64 ev.task) ∧ w.cell? ⟨dg, i * 5 + 4, none⟩ = some (.int .i64 ev.deadline) := by
  have hil := lt_of_get hev
  obtain ⟨dg, dcap, hdg, -, -⟩ := ownsRow_some p (by omega)
  subst hdg
  refine ⟨dg, dcap, rfl, (ownsRow_lt p (k := dg) rfl).2, ?_⟩
  have h5 : ∀ c ∈ d.map evCells, c.length = 5 := by
    intro c hc
    obtain ⟨j, _, rfl⟩ := List.mem_map.1 hc
    rfl
  have hc : ∀ j v, j < 5 → (evCells ev)[j]? = some v → w.cell? ⟨dg, i * 5 + j, none⟩ = some v := fun j v hj hv => by
    have hg : (erow d)[i * 5 + j]? = some v := by
      rw [erow, flatten_get h5 i j hj, List.getElem?_map, hev]
      exact hv
    have h1 := World.ownsRow.cells (g := dg) p (by rfl) (i * 5 + j) _ hg
    rw [Addr.add] at h1
    split at h1
    · rename_i h0; rw [h0]; exact h1
    · simpa using h1
  exact ⟨hc 0 _ (by decide) rfl, hc 1 _ (by decide) rfl, hc 2 _ (by decide) rfl, hc 3 _ (by decide) rfl, hc 4 _ (by decide) rfl⟩

set_option maxRecDepth 100000 in
set_option maxHeartbeats 1600000 in
theorem sameEvents_true (b1 b2 : Nat) (va vb : Value) (es : List Ev) (w : World) (ha : EvP w b1 va es) (hb : EvP w b2 vb es) (hl : es.length ≤ 1000000000) :
    Calls Tryz.prog 43 #[va, vb] w fun e w' => e = .returned (.bool true) ∧ Below w.heap.size w w' := by
  have HA := hide ha
  have HB := hide hb
  obtain ⟨aa, ac, rfl⟩ := ownsRow_slice ha
  obtain ⟨ba, bc, rfl⟩ := ownsRow_slice hb
  generalize hn : es.length = n at *
  have HN := hide hn
  clear ha hb hn
  go_enter Tryz.func43, Tryz.ntmps43
  go_wp2_with fail
  go_loopg [5] n (fun g iv wr => ∃ i : Nat, iv = .int .i64 i ∧ g = n - i ∧ i ≤ n ∧ Below w.heap.size w wr)
  case atStart => exact ⟨0, rfl, by omega, Nat.zero_le _, Below.refl _ _⟩
  case round =>
    obtain ⟨i, rfl, hg, hil, hbe⟩ := hrel
    have HG := hide hg
    have HBE := hide hbe
    have hz := hbe.size
    clear hg
    by_cases hlt : i < n
    · have hii : (i : Int) < (n : Int) := by omega
      obtain ⟨ev, hev⟩ := get_of_lt (l := es) (k := i) (by rw [HN.out]; exact hlt)
      obtain ⟨ag, ac', hav, hal, a0, a1, a2, a3, a4⟩ := HA.out.rd hev
      obtain ⟨bg, bc', hbv, hbl, b0, b1', b2', b3, b4⟩ := HB.out.rd hev
      rw [HN.out] at hav hbv
      simp only [Value.slice.injEq, true_and] at hav hbv
      obtain ⟨rfl, rfl⟩ := hav
      obtain ⟨rfl, rfl⟩ := hbv
      have p0 := (hbe.cell (p := ⟨ag, i * 5, none⟩) hal).trans a0
      have p1 := (hbe.cell (p := ⟨ag, i * 5 + 1, none⟩) hal).trans a1
      have p2 := (hbe.cell (p := ⟨ag, i * 5 + 2, none⟩) hal).trans a2
      have p3 := (hbe.cell (p := ⟨ag, i * 5 + 3, none⟩) hal).trans a3
      have p4 := (hbe.cell (p := ⟨ag, i * 5 + 4, none⟩) hal).trans a4
      have q0 := (hbe.cell (p := ⟨bg, i * 5, none⟩) hbl).trans b0
      have q1 := (hbe.cell (p := ⟨bg, i * 5 + 1, none⟩) hbl).trans b1'
      have q2 := (hbe.cell (p := ⟨bg, i * 5 + 2, none⟩) hbl).trans b2'
      have q3 := (hbe.cell (p := ⟨bg, i * 5 + 3, none⟩) hbl).trans b3
      have q4 := (hbe.cell (p := ⟨bg, i * 5 + 4, none⟩) hbl).trans b4
      have har : ag < wr.heap.size := by omega
      have hbr : bg < wr.heap.size := by omega
      generalize ev.kind = e0 at *
      generalize ev.tick = e1 at *
      generalize ev.job = e2 at *
      generalize ev.task = e3 at *
      generalize ev.deadline = e4 at *
      clear a0 a1 a2 a3 a4 b0 b1' b2' b3 b4 hev hbe
      go_wp2_with fail
      go_roundg (n - (i + 1))
      case measure => have := HG.out; omega
      case rel => exact ⟨i + 1, by go_num, rfl, by omega, (HBE.out.alloc hz _).alloc (by simp; omega) _⟩
    · have hii : ¬ (i : Int) < (n : Int) := by omega
      go_wp2_with fail
      go_ret
      exact ⟨rfl, HBE.out⟩

set_option maxRecDepth 100000 in
set_option maxHeartbeats 1600000 in
theorem sameCounts_true (c0 c1 c2 c3 c4 c5 c6 c7 c8 : Int) (w : World) :
    Calls Tryz.prog 46 #[.agg #[.int .i64 c0, .int .i64 c1, .int .i64 c2, .int .i64 c3, .int .i64 c4, .int .i64 c5, .int .i64 c6, .int .i64 c7, .int .i64 c8], .agg #[.int .i64 c0, .int .i64 c1, .int .i64 c2, .int .i64 c3, .int .i64 c4, .int .i64 c5, .int .i64 c6, .int .i64 c7, .int .i64 c8]] w fun e w' => e = .returned (.bool true) ∧ Below w.heap.size w w' := by
  have HB : Hid (Below w.heap.size w ((w.alloc (.cells #[.int .i64 c0, .int .i64 c1, .int .i64 c2, .int .i64 c3, .int .i64 c4, .int .i64 c5, .int .i64 c6, .int .i64 c7, .int .i64 c8] 95)).alloc (.cells #[.int .i64 c0, .int .i64 c1, .int .i64 c2, .int .i64 c3, .int .i64 c4, .int .i64 c5, .int .i64 c6, .int .i64 c7, .int .i64 c8] 95))) := ((Below.refl _ _).alloc (Nat.le_refl _) _).alloc (by simp) _
  go_enter Tryz.func46, Tryz.ntmps46
  go_wp2_with fail
  go_ret
  exact ⟨rfl, HB.out⟩

theorem held_sum (ls : List (List Fd)) : (((ls.map List.length).sum : Nat) : Int) = held ls := by
  induction ls with
  | nil => rfl
  | cons l ls ih => rw [held_cons, List.map_cons, List.sum_cons, ← ih]; simp
theorem rCounts_rec {S T : Nat → Prop} {base Y : Nat} {N : Int} {x : Exs} {w : World} (h : Rec w S T base Y x) (hi : ExIn x N) :
    Calls Tryz.prog 38 #[.pointer (some ⟨Y, 0, none⟩)] w fun e w' => e = .returned (countsV x) ∧ Below w.heap.size w w' := by
  obtain ⟨L, tv, jv, lvs, h⟩ := h
  obtain ⟨ja, jc, rfl⟩ := ownsRow_slice h.jbs
  obtain ⟨⟨c1, c2⟩, -⟩ := cfgNum hi.cfg
  have hnl := hi.nl
  have hlen := h.len
  refine (rCounts_any Y w.heap.size x.cfg.lines x.cfg.room x.cfg.poll x.cfg.idle x.cfg.sw x.clock x.fed x.ct.jobs x.ct.done x.ct.lost x.ct.unknown x.ct.bad x.ct.spilled tv (.slice (some ⟨L, 0, none⟩) lvs.length lvs.length) ja x.jobs.length jc (x.lines.map List.length) w h.blk ⟨some ⟨L, 0, none⟩, lvs.length, by rw [List.length_map, hlen], .inr ⟨L, 0, rfl, h.lns.lt, fun i n hn => ?_⟩⟩ (Nat.le_refl _) (by rw [List.length_map]; omega) (fun n hn => ?_)).mono ?_
  · rw [List.getElem?_map] at hn
    obtain ⟨l, hl, rfl⟩ := Option.map_eq_some_iff.1 hn
    obtain ⟨v, hv⟩ := get_of_lt (l := lvs) (k := i) (by rw [hlen]; exact lt_of_get hl)
    obtain ⟨a, c, hve⟩ := ownsRow_slice (h.row i v l hv hl)
    refine ⟨a, c, ?_⟩
    rw [Nat.zero_add, h.lns.cell i]
    simp [hv, hve]
  · obtain ⟨l, hl, rfl⟩ := List.mem_map.1 hn
    exact (hi.ln l hl).len
  · rintro e w' ⟨rfl, hb⟩
    rw [held_sum]
    exact ⟨rfl, hb⟩

end Go.Proofs.YthloffgebebijaaGreat

/- RigC: what the calls of the executives make of the rig. -/
namespace Go.Proofs.YthloffgebebijaaGreat
open Go.RowKit Go.MuLone

set_option maxRecDepth 100000 in
set_option maxHeartbeats 400000 in
theorem lawPick_any (c n : Int) (w : World) (hc : In64 c) (hn : 0 < n) (hn' : n ≤ 9223372036854775807) :
    Calls Tryz.prog 16 #[.int .i64 c, .int .i64 n] w fun e w' => e = .returned (.int .i64 (pk c n)) ∧ w = w' := by
  obtain ⟨h1, h2⟩ := hc
  have hz : (n == 0) = false := by simp; omega
  by_cases h : c < 0
  · go_enter Tryz.func16, Tryz.ntmps16
    go_wp2
    go_ret
    refine ⟨ret_int ?_, rfl⟩
    rw [pk, if_pos h, ← Int.tmod_eq_emod_of_nonneg (by omega), Int.neg_tmod]
  · go_enter Tryz.func16, Tryz.ntmps16
    go_wp2
    go_ret
    refine ⟨ret_int ?_, rfl⟩
    rw [pk, if_neg (by omega)]

/-- A string turned into bytes. -/
theorem conv_strR (s : ByteArray) (w : World) : ∃ cap W, (convert 9 57 (.string s)).run Tryz.prog w = .ok (.slice (some ⟨w.heap.size, 0, none⟩) s.size cap) W ∧ Below w.heap.size w W ∧ Rd8 W W.heap.size (.slice (some ⟨w.heap.size, 0, none⟩) s.size cap) (sbytes s) := by
  refine ⟨_, _, run_bytes_of_string (P := Tryz.prog) w 9 57 5 s Tryz.underlying9 Tryz.underlying57 Tryz.underlying5, ?_, ?_⟩
  · exact (show Below w.heap.size w w.drew from (Below.refl _ _).drew).alloc (Nat.le_refl _) _
  · refine ⟨_, _, by rw [sbytes_length], by rw [sbytes_length]; exact grownCap_ge w s.size 0 _, .inr ⟨w.heap.size, 0, rfl, by simp, fun i x hi => ?_⟩⟩
    rw [Nat.zero_add, cell_of_row _ w.heap.size i _ _ _ (heap_alloc_new w.drew _)]
    have hlt := lt_of_get hi
    rw [sbytes_length] at hlt
    unfold bytesRow
    rw [Array.getElem?_append_left (by rw [Array.size_map]; exact hlt)]
    simp only [sbytes, List.getElem?_map, Array.getElem?_toList] at hi
    rw [Array.getElem?_map]
    cases hd : s.data[i]? with
    | none => rw [hd] at hi; simp at hi
    | some y => rw [hd] at hi; simp at hi; subst hi; rfl

/-- What was lent or is new reads outside the blocks that anybody owns. -/
theorem Rd8.byt {w : World} {B : Nat} {S : Nat → Prop} {v : Value} {bs : List Int} (h : Rd8 w B v bs) (hB : B ≤ w.heap.size) (hS : ∀ g, v.ownBlock = some g → ¬ S g) (hv : bs = [] ∨ ∃ g n c, v = .slice (some ⟨g, 0, none⟩) n c) : BytV w S v bs := by
  obtain ⟨a, cap, rfl, hc, h⟩ := h
  refine ⟨a, cap, rfl, hc, ?_⟩
  rcases h with h | ⟨b, o, rfl, hb, hx⟩
  · exact .inl h
  · rcases hv with hv | ⟨g, n, c, hv⟩
    · exact .inl hv
    · simp only [Value.slice.injEq, Option.some.injEq, Addr.mk.injEq] at hv
      obtain ⟨⟨rfl, rfl, _⟩, _, _⟩ := hv
      exact .inr ⟨b, 0, rfl, by omega, hS b rfl, hx⟩

section
variable {w : World} {own : Nat → Nat} {B Q : Nat} {psv : Value} {nb ni ne nl nt : Nat} {es : List (Nat × Nat)} {xs ys : List Exs} {i : Nat} {e : Nat × Nat} {x y : Exs} {N : Int}
/-- What a call leaves. -/
def Goes (w w' : World) (own own' : Nat → Nat) : Prop := Fr (fun k => own k ≠ 0) w w' ∧ ∀ k, k < w.heap.size → own' k = own k
theorem Rig.cntY (p : Rig w own B Q psv nb ni ne nl nt es xs ys) (he : es[i]? = some e) (hy : ys[i]? = some y) (hi : ExIn y N) :
    Calls Tryz.prog 38 #[.pointer (some ⟨e.2, 0, none⟩)] w fun r w' => r = .returned (countsV y) ∧ Below w.heap.size w w' := by
  obtain ⟨b, T, hb, hT, hy⟩ := p.py i e y he hy
  exact rCounts_rec hy hi
theorem Rig.cntX (p : Rig w own B Q psv nb ni ne nl nt es xs ys) (hB : B ≤ w.heap.size) (he : es[i]? = some e) (hx : xs[i]? = some x) (hi : ExIn x N) :
    Calls Tryz.prog 45 #[.pointer (some ⟨e.1, 0, none⟩)] w fun r w' => r = .returned (countsV x) ∧ ∃ own', Rig w' own' B Q psv nb ni ne nl nt es xs ys ∧ Goes w w' own own' := by
  obtain ⟨b, hb, hX⟩ := p.px i e x he hx
  refine (xCounts_any _ b e.1 N x w hX hi).mono ?_
  rintro r w' ⟨rfl, h2, h3⟩
  have hown : own e.1 = 3 + 2 * i := by
    obtain ⟨dv, qv, L, vs, hs, h⟩ := hX
    exact h.sx
  have hf : Fr (fun k => own k = 3 + 2 * i) w w' := h3.mono fun q _ e => by rw [e]; exact hown
  have h4 := p.turnX hB he hb h2 (fun k e => .inl e) hf
  have hset : xs.set i x = xs := by
    apply List.ext_getElem?
    intro j
    by_cases e : i = j
    · subst e
      rw [List.getElem?_set_self (lt_of_get hx), hx]
    · rw [List.getElem?_set_ne e]
  rw [hset] at h4
  exact ⟨rfl, _, h4, hf.mono fun q _ e => by rw [e]; omega, fun k hk => newOwn_old hk⟩
theorem Rig.feedX (p : Rig w own B Q psv nb ni ne nl nt es xs ys) (hB : B ≤ w.heap.size) (he : es[i]? = some e) (hx : xs[i]? = some x) (hi : ExIn x N) (hN : N ≤ 800000000000000) (n t : Int) {bv : Value} {bs : List Int} (hb : BytV w (fun k => own k ≠ 0) bv bs) (hbl : bs.length ≤ 100000000000) :
    Calls Tryz.prog 39 #[.pointer (some ⟨e.1, 0, none⟩), .int .i64 n, .int .i64 t, bv] w fun r w' => r = .returned (.int .i64 (exFeed x n t bs).2) ∧ ∃ own', Rig w' own' B Q psv nb ni ne nl nt es (xs.set i (exFeed x n t bs).1) ys ∧ Goes w w' own own' := by
  obtain ⟨b, hbz, hX⟩ := p.px i e x he hx
  refine (xFeed_any _ b e.1 N n t x bv bs w hX (hb.mono fun k e => by rw [e]; omega) hbl hbz hi hN).mono ?_
  rintro r w' ⟨rfl, h2, h3⟩
  exact ⟨rfl, _, p.turnX hB he hbz h2 (fun k e => e) h3, h3.mono fun q _ e => by rw [e]; omega, fun k hk => newOwn_old hk⟩
theorem Rig.feedY (p : Rig w own B Q psv nb ni ne nl nt es xs ys) (hB : B ≤ w.heap.size) (he : es[i]? = some e) (hy : ys[i]? = some y) (hi : ExIn y N) (hN : N ≤ 800000000000000) (n t : Int) {bv : Value} {bs : List Int} (hb : BytV w (fun k => own k ≠ 0) bv bs) (hbl : bs.length ≤ 100000000000) :
    Calls Tryz.prog 40 #[.pointer (some ⟨e.2, 0, none⟩), .int .i64 n, .int .i64 t, bv] w fun r w' => r = .returned (.int .i64 (exFeed y n t bs).2) ∧ ∃ own', Rig w' own' B Q psv nb ni ne nl nt es xs (ys.set i (exFeed y n t bs).1) ∧ Goes w w' own own' := by
  obtain ⟨b, T, hbz, hT, hY⟩ := p.py i e y he hy
  refine (rFeed_any _ T b e.2 N n t y bv bs w hY (hb.mono fun k e => by rw [e]; omega) hbl hbz hi hN).mono ?_
  rintro r w' ⟨rfl, h2, h3⟩
  exact ⟨rfl, _, p.turnY hB he hbz hT h2 (fun k e => e) h3, h3.mono fun q _ e => by rw [e]; omega, fun k hk => newOwn_old hk⟩
theorem Rig.runX (p : Rig w own B Q psv nb ni ne nl nt es xs ys) (hB : B ≤ w.heap.size) (he : es[i]? = some e) (hx : xs[i]? = some x) (hi : ExIn x N) (hN : N ≤ 800000000000000) (u : Int) :
    Calls Tryz.prog 41 #[.pointer (some ⟨e.1, 0, none⟩), .int .i64 u] w fun r w' => ∃ ev, r = .returned ev ∧ EvP w' w.heap.size ev (exRun u 3000 x).2 ∧ ∃ own', Rig w' own' B Q psv nb ni ne nl nt es (xs.set i (exRun u 3000 x).1) ys ∧ Goes w w' own own' ∧ ∀ k, ev.ownBlock = some k → own' k = 0 := by
  obtain ⟨b, hbz, hX⟩ := p.px i e x he hx
  refine (xRun_any _ b e.1 N u x w hX hbz hi hN).mono ?_
  rintro r w' ⟨ev, rfl, h2, ⟨S', h3, h4, h5⟩, h6⟩
  refine ⟨ev, rfl, h2, _, p.turnX hB he hbz h3 h4 h6, ⟨h6.mono fun q _ e => by rw [e]; omega, fun k hk => newOwn_old hk⟩, fun k hk => ?_⟩
  rcases newOwn_cases (own := own) (w := w) (w' := w') (S' := S') (j := 3 + 2 * i) k with h | h
  · exact absurd h.2.2.2 (h5 k hk)
  · rw [h]
    have h7 := (ownsRow_lt h2 hk).1
    by_cases h0 : own k = 0
    · exact h0
    · have := (p.lo k h0).2; omega
theorem Rig.runY (p : Rig w own B Q psv nb ni ne nl nt es xs ys) (hB : B ≤ w.heap.size) (he : es[i]? = some e) (hy : ys[i]? = some y) (hi : ExIn y N) (hN : N ≤ 800000000000000) (u : Int) :
    Calls Tryz.prog 42 #[.pointer (some ⟨e.2, 0, none⟩), .int .i64 u] w fun r w' => ∃ ev, r = .returned ev ∧ EvP w' w.heap.size ev (exRun u 3000 y).2 ∧ ∃ own', Rig w' own' B Q psv nb ni ne nl nt es xs (ys.set i (exRun u 3000 y).1) ∧ Goes w w' own own' := by
  obtain ⟨b, T, hbz, hT, hY⟩ := p.py i e y he hy
  refine (rRun_any _ T b e.2 N u y w hY (fun q e => (p.lo q (by rw [e]; omega)).2) hbz hi hN).mono ?_
  rintro r w' ⟨ev, rfl, h2, ⟨S', h3, h4, h5⟩, h6⟩
  exact ⟨ev, rfl, h2, _, p.turnY hB he hbz hT h3 (fun k e => (h4 k e).1) h6, h6.mono fun q _ e => by rw [e]; omega, fun k hk => newOwn_old hk⟩
theorem Goes.below {w' : World} {own' : Nat → Nat} (p : Rig w own B Q psv nb ni ne nl nt es xs ys) (hB : B ≤ w.heap.size) (g : Goes w w' own own') : Below B w w' := g.1.below hB fun k e => (p.lo k e).1
open Classical in
/-- The book takes a list of events that came out. -/
theorem Rig.event (p : Rig w own B Q psv nb ni ne nl nt es xs ys) (hB : B ≤ w.heap.size) {l : Value} {n : Nat} {zs : List Value} (ho : w.ownsRow B 149 5 l n zs) (hl : ∀ k, l.ownBlock = some k → own k = 0 ∧ Q ≤ k) (hn : n ≤ 1000000) (hnn : ne ≤ 1000000000) :
    Calls Tryz.prog 44 #[.pointer (some ⟨B, 1, none⟩), l] w fun r w' => r = .returned (.tuple #[]) ∧ ∃ own', Rig w' own' B Q psv nb ni (ne + 1) nl nt es xs ys ∧ Fr (fun k => own k ≠ 0 ∨ l.ownBlock = some k) w w' := by
  refine (bookE_any _ B B psv nb ni ne nl nt l n zs w p.bk hB ho (fun k e e' => by rw [(hl k e).1] at e'; omega) hn hnn).mono ?_
  rintro r w' ⟨rfl, S', h2, h3, h4, h5⟩
  have hz := h5.size
  have hX : ∀ q, q ≠ 1 → q ≠ 0 → ∀ k, own k = q → w'.heap[k]? = w.heap[k]? := fun q h1 h0 k e => h5.block k (p.lo k (by rw [e]; exact h0)).2 fun e' => by
    rcases e' with e' | e'
    · exact h1 (e.symm.trans e')
    · exact h0 (e.symm.trans (hl k e').1)
  have hT : ∀ k, own k = 0 → k < Q → w'.heap[k]? = w.heap[k]? := fun k e hk => h5.block k (by have := p.qs; omega) fun e' => by
    rcases e' with e' | e'
    · rw [e] at e'; omega
    · have := (hl k e').2; omega
  obtain ⟨own', hown⟩ : ∃ f : Nat → Nat, f = fun k => if S' k then 1 else own k := ⟨_, rfl⟩
  have h1 : ∀ k, S' k → own' k = 1 := fun k e => by rw [hown]; simp only; rw [if_pos e]
  have h0 : ∀ k, ¬ S' k → own' k = own k := fun k e => by rw [hown]; simp only; rw [if_neg e]
  have hS0 : ∀ k, S' k → own k = 1 ∨ own k = 0 := fun k e => by
    rcases h4 k e with e | e | e
    · exact .inl e
    · exact .inr (hl k e).1
    · by_cases h : own k = 0
      · exact .inr h
      · have := (p.lo k h).2; omega
  have hq : ∀ q, q ≠ 1 → q ≠ 0 → ∀ k, own k = q → own' k = q := fun q n1 n0 k e => by
    rw [h0 k fun e' => (hS0 k e').elim (fun e2 => n1 (e.symm.trans e2)) fun e2 => n0 (e.symm.trans e2)]
    exact e
  have hq' : ∀ q, q ≠ 1 → ∀ k, own' k = q → own k = q := fun q n1 k e => by
    by_cases h : S' k
    · rw [h1 k h] at e; exact absurd e.symm n1
    · rw [h0 k h] at e; exact e
  have hT' : ∀ k, own k = 0 → k < Q → own' k = 0 := fun k e hk => by
    rw [h0 k fun e' => ?_]
    · exact e
    · rcases h4 k e' with e2 | e2 | e2
      · rw [e] at e2; omega
      · have := (hl k e2).2; omega
      · have := p.qs; omega
  refine ⟨rfl, own', ⟨fun k e => ?_, Nat.le_trans p.qs hz, ?_, ownsRow_same p.row fun k e => hX 2 (by decide) (by decide) k (p.ro k e), fun k e => hq 2 (by decide) (by decide) k (p.ro k e), p.lx, p.ly, fun i e x he hx => ?_, fun i e y he hy => ?_⟩, h5.mono fun k _ e => e.imp (fun e => by rw [e]; decide) id⟩
  · by_cases h : S' k
    · exact h2.1 k h
    · rw [h0 k h] at e
      exact ⟨(p.lo k e).1, Nat.lt_of_lt_of_le (p.lo k e).2 hz⟩
  · refine h2.wide h1 fun k e => ?_
    by_cases h : S' k
    · exact h2.1 k h
    · rw [h0 k h] at e
      exact absurd (h3 k e) h
  · obtain ⟨b, hb, hx'⟩ := p.px i e x he hx
    exact ⟨b, Nat.le_trans hb hz, (hx'.same fun k e => hX _ (by omega) (by omega) k e).mono fun k _ e => hq _ (by omega) (by omega) k e⟩
  · obtain ⟨b, T, hb, hT2, hy'⟩ := p.py i e y he hy
    refine ⟨b, T, Nat.le_trans hb hz, fun k e => ⟨hT' k (hT2 k e).1 (hT2 k e).2, (hT2 k e).2⟩, (hy'.same (fun k e => e.elim (fun e => hX _ (by omega) (by omega) k e) fun e => hT k (hT2 k e).1 (hT2 k e).2) hz).mono (fun k _ e => hq _ (by omega) (by omega) k e) fun k e e' => ?_⟩
    rw [hT' k (hT2 k e).1 (hT2 k e).2] at e'
    omega
end

end Go.Proofs.YthloffgebebijaaGreat
