/- RigA: the world of a script with executives, the program's and the reference's: who owns which block. -/
import Derived.Test.YthloffgebebijaaGreatRexG
import Derived.Test.YthloffgebebijaaGreatBookK
import Derived.Test.YthloffgebebijaaGreatRndJ
import Derived.Test.YthloffgebebijaaGreatRndG
import Derived.Deep.LoopGhost
import Derived.Test.YthloffgebebijaaGreatOwnEK
import Derived.Test.YthloffgebebijaaGreatStrK
import Derived.Test.YthloffgebebijaaGreatPickA
import Derived.Test.YthloffgebebijaaGreatEncW
import Derived.Laws.IdiomStrings
import Derived.Test.YthloffgebebijaaGreatPlays
import Derived.Deep.DeepMust
namespace Go.Proofs.YthloffgebebijaaGreat
open Go.RowKit Go.MuLone

def prow (es : List (Nat × Nat)) : List Value := (es.map fun e => [Value.pointer (some ⟨e.1, 0, none⟩), Value.pointer (some ⟨e.2, 0, none⟩)]).flatten
theorem prow_append (a b : List (Nat × Nat)) : prow (a ++ b) = prow a ++ prow b := by simp [prow]

/-- own: 0: nobody's; 1: the book's; 2: the list of pairs'; 3 and twice i: the program's executive i; 4 and twice i: the reference's. Q: what a reference keeps lies below it. -/
structure Rig (w : World) (own : Nat → Nat) (B Q : Nat) (psv : Value) (nb ni ne nl nt : Nat) (es : List (Nat × Nat)) (xs ys : List Exs) : Prop where
  lo : ∀ k, own k ≠ 0 → B ≤ k ∧ k < w.heap.size
  qs : Q ≤ w.heap.size
  bk : BookAt w (fun k => own k = 1) B B psv nb ni ne nl nt
  row : w.ownsRow B 49 2 psv es.length (prow es)
  ro : ∀ k, psv.ownBlock = some k → own k = 2
  lx : xs.length = es.length
  ly : ys.length = es.length
  px : ∀ (i : Nat) e x, es[i]? = some e → xs[i]? = some x → ∃ b, b ≤ w.heap.size ∧ Xec w (fun k => own k = 3 + 2 * i) b e.1 x
  py : ∀ (i : Nat) e y, es[i]? = some e → ys[i]? = some y → ∃ b T, b ≤ w.heap.size ∧ (∀ k, T k → own k = 0 ∧ k < Q) ∧ Rec w (fun k => own k = 4 + 2 * i) T b e.2 y

theorem BookAt.wide {w : World} {S S' : Nat → Prop} {B W : Nat} {ps : Value} {nb ni ne nl nt : Nat} (h : BookAt w S B W ps nb ni ne nl nt) (hS : ∀ k, S k → S' k) (hlo : ∀ k, S' k → B ≤ k ∧ k < w.heap.size) : BookAt w S' B W ps nb ni ne nl nt := by
  obtain ⟨h1, h2, vb, vi, ve, vl, vt, hb, e1, e2, e3, e4, e5⟩ := h
  exact ⟨hlo, hS W h2, vb, vi, ve, vl, vt, hb, e1.same (fun _ _ => rfl) hS, e2.same (fun _ _ => rfl) hS, e3.same (fun _ _ => rfl) hS, e4.same (fun _ _ => rfl) hS, e5.same (fun _ _ => rfl) hS⟩

section
variable {w w' : World} {own : Nat → Nat} {B Q : Nat} {psv : Value} {nb ni ne nl nt : Nat} {es : List (Nat × Nat)} {xs ys : List Exs}
/-- Some blocks turn that are nobody's. -/
theorem Rig.quiet (p : Rig w own B Q psv nb ni ne nl nt es xs ys) {X : Nat → Prop} (hf : Fr X w w') (hX : ∀ k, X k → own k = 0 ∧ Q ≤ k) : Rig w' own B Q psv nb ni ne nl nt es xs ys := by
  have hz := hf.size
  have hk : ∀ k, own k ≠ 0 → w'.heap[k]? = w.heap[k]? := fun k e => hf.block k (p.lo k e).2 fun e' => e (hX k e').1
  refine ⟨fun k e => ⟨(p.lo k e).1, Nat.lt_of_lt_of_le (p.lo k e).2 hz⟩, Nat.le_trans p.qs hz, p.bk.same (fun k e => hk k (by rw [e]; decide)) hz, ownsRow_same p.row fun k e => hk k (by rw [p.ro k e]; decide), p.ro, p.lx, p.ly, fun i e x he hx => ?_, fun i e y he hy => ?_⟩
  · obtain ⟨b, hb, hx'⟩ := p.px i e x he hx
    exact ⟨b, Nat.le_trans hb hz, hx'.same fun k e => hk k (by rw [e]; omega)⟩
  · obtain ⟨b, T, hb, hT, hy'⟩ := p.py i e y he hy
    refine ⟨b, T, Nat.le_trans hb hz, hT, hy'.same (fun k e => ?_) hz⟩
    rcases e with e | e
    · exact hk k (by rw [e]; omega)
    · have h1 := hT k e
      have h2 := p.qs
      exact hf.block k (by omega) fun e' => by have := (hX k e').2; omega
theorem Rig.below (p : Rig w own B Q psv nb ni ne nl nt es xs ys) (hb : Below w.heap.size w w') : Rig w' own B Q psv nb ni ne nl nt es xs ys :=
  p.quiet (X := fun _ => False) (Fr.of_below hb) fun _ e => e.elim
/-- The owner of what is new. -/
def newOwn (own : Nat → Nat) (w w' : World) (S' : Nat → Prop) [DecidablePred S'] (j : Nat) : Nat → Nat := fun k => if w.heap.size ≤ k ∧ k < w'.heap.size ∧ S' k then j else own k
theorem newOwn_old {S' : Nat → Prop} {_d : DecidablePred S'} {j k : Nat} (h : k < w.heap.size) : newOwn own w w' S' j k = own k := by
  unfold newOwn
  rw [if_neg (fun e => by omega)]
theorem newOwn_cases {S' : Nat → Prop} [DecidablePred S'] {j : Nat} (k : Nat) : (newOwn own w w' S' j k = j ∧ w.heap.size ≤ k ∧ k < w'.heap.size ∧ S' k) ∨ newOwn own w w' S' j k = own k := by
  unfold newOwn
  split
  · rename_i h; exact .inl ⟨rfl, h⟩
  · exact .inr rfl
theorem newOwn_in {S' : Nat → Prop} {_d : DecidablePred S'} {j k : Nat} (h : w.heap.size ≤ k) (h2 : k < w'.heap.size) (h3 : S' k) : newOwn own w w' S' j k = j := by
  unfold newOwn
  rw [if_pos ⟨h, h2, h3⟩]

open Classical
/-- What all turns have in common: the blocks of one owner turn, and it takes some new ones. -/
theorem Rig.keep (p : Rig w own B Q psv nb ni ne nl nt es xs ys) {j : Nat} {S' : Nat → Prop} (hj : j ≠ 0) (hB : B ≤ w.heap.size) (hf : Fr (fun k => own k = j) w w') :
    (∀ k, newOwn own w w' S' j k ≠ 0 → B ≤ k ∧ k < w'.heap.size) ∧ (∀ q, q ≠ j → q ≠ 0 → ∀ k, own k = q → newOwn own w w' S' j k = q ∧ w'.heap[k]? = w.heap[k]?) ∧ (∀ q, q ≠ j → ∀ k, newOwn own w w' S' j k = q → own k = q) ∧ (∀ k, own k = 0 → k < Q → newOwn own w w' S' j k = 0 ∧ w'.heap[k]? = w.heap[k]?) := by
  have hz := hf.size
  have hq := p.qs
  refine ⟨fun k e => ?_, fun q h1 h2 k e => ?_, fun q h1 k e => ?_, fun k e hk => ?_⟩
  · rcases newOwn_cases (own := own) (w := w) (w' := w') (S' := S') (j := j) k with h | h
    · exact ⟨by omega, h.2.2.1⟩
    · rw [h] at e
      exact ⟨(p.lo k e).1, Nat.lt_of_lt_of_le (p.lo k e).2 hz⟩
  · have hl := (p.lo k (by rw [e]; exact h2)).2
    exact ⟨by rw [newOwn_old hl]; exact e, hf.block k hl fun e' => h1 (e.symm.trans e')⟩
  · rcases newOwn_cases (own := own) (w := w) (w' := w') (S' := S') (j := j) k with h | h
    · exact absurd (h.1.symm.trans e).symm h1
    · rw [h] at e; exact e
  · exact ⟨by rw [newOwn_old (by omega)]; exact e, hf.block k (by omega) fun e' => hj (e'.symm.trans e)⟩
/-- A call of the program's executive i. -/
theorem Rig.turnX (p : Rig w own B Q psv nb ni ne nl nt es xs ys) (hB : B ≤ w.heap.size) {i : Nat} {e : Nat × Nat} {x' : Exs} {b : Nat} {S' : Nat → Prop} (he : es[i]? = some e) (hb : b ≤ w.heap.size) (hx : Xec w' S' b e.1 x') (hs : ∀ k, S' k → own k = 3 + 2 * i ∨ w.heap.size ≤ k) (hf : Fr (fun k => own k = 3 + 2 * i) w w') :
    Rig w' (newOwn own w w' S' (3 + 2 * i)) B Q psv nb ni ne nl nt es (xs.set i x') ys := by
  have hz := hf.size
  obtain ⟨k1, k2, k3, k4⟩ := p.keep (S' := S') (by omega) hB hf
  have hil := lt_of_get he
  refine ⟨k1, Nat.le_trans p.qs hz, ?_, ownsRow_same p.row fun k e => (k2 2 (by omega) (by decide) k (p.ro k e)).2, fun k e => (k2 2 (by omega) (by decide) k (p.ro k e)).1, by rw [List.length_set]; exact p.lx, p.ly, fun i' e' x he' hx' => ?_, fun i' e' y he' hy' => ?_⟩
  · refine (p.bk.same (fun k e => (k2 1 (by omega) (by decide) k e).2) hz).wide (fun k e => (k2 1 (by omega) (by decide) k e).1) fun k e => ?_
    have := k3 1 (by omega) k e
    exact ⟨(p.lo k (by rw [this]; decide)).1, Nat.lt_of_lt_of_le (p.lo k (by rw [this]; decide)).2 hz⟩
  · by_cases h : i' = i
    · subst h
      rw [List.getElem?_set_self (by rw [p.lx]; exact hil)] at hx'
      simp only [Option.some.injEq] at hx'
      subst hx'
      rw [he] at he'
      simp only [Option.some.injEq] at he'
      subst he'
      refine ⟨b, Nat.le_trans hb hz, hx.mono fun k hk e => ?_⟩
      by_cases hkw : k < w.heap.size
      · rw [newOwn_old hkw]
        exact (hs k e).elim id fun e => by omega
      · exact newOwn_in (by omega) hk e
    · rw [List.getElem?_set_ne (fun e => h e.symm)] at hx'
      obtain ⟨b', hb', hxx⟩ := p.px i' e' x he' hx'
      have h2 := k2 (3 + 2 * i') (by omega) (by omega)
      exact ⟨b', Nat.le_trans hb' hz, (hxx.same fun k e => (h2 k e).2).mono fun k _ e => (h2 k e).1⟩
  · obtain ⟨b', T, hb', hT, hyy⟩ := p.py i' e' y he' hy'
    have h2 := k2 (4 + 2 * i') (by omega) (by omega)
    refine ⟨b', T, Nat.le_trans hb' hz, fun k e => ⟨(k4 k (hT k e).1 (hT k e).2).1, (hT k e).2⟩, (hyy.same (fun k e => e.elim (fun e => (h2 k e).2) fun e => (k4 k (hT k e).1 (hT k e).2).2) hz).mono (fun k _ e => (h2 k e).1) fun k e e' => ?_⟩
    rw [(k4 k (hT k e).1 (hT k e).2).1] at e'
    omega
/-- A call of the reference's executive i. -/
theorem Rig.turnY (p : Rig w own B Q psv nb ni ne nl nt es xs ys) (hB : B ≤ w.heap.size) {i : Nat} {e : Nat × Nat} {y' : Exs} {b : Nat} {S' T : Nat → Prop} (he : es[i]? = some e) (hb : b ≤ w.heap.size) (hT0 : ∀ k, T k → own k = 0 ∧ k < Q) (hy : Rec w' S' T b e.2 y') (hs : ∀ k, S' k → own k = 4 + 2 * i ∨ w.heap.size ≤ k) (hf : Fr (fun k => own k = 4 + 2 * i) w w') :
    Rig w' (newOwn own w w' S' (4 + 2 * i)) B Q psv nb ni ne nl nt es xs (ys.set i y') := by
  have hz := hf.size
  obtain ⟨k1, k2, k3, k4⟩ := p.keep (S' := S') (by omega) hB hf
  have hil := lt_of_get he
  refine ⟨k1, Nat.le_trans p.qs hz, ?_, ownsRow_same p.row fun k e => (k2 2 (by omega) (by decide) k (p.ro k e)).2, fun k e => (k2 2 (by omega) (by decide) k (p.ro k e)).1, p.lx, by rw [List.length_set]; exact p.ly, fun i' e' x he' hx' => ?_, fun i' e' y he' hy' => ?_⟩
  · refine (p.bk.same (fun k e => (k2 1 (by omega) (by decide) k e).2) hz).wide (fun k e => (k2 1 (by omega) (by decide) k e).1) fun k e => ?_
    have := k3 1 (by omega) k e
    exact ⟨(p.lo k (by rw [this]; decide)).1, Nat.lt_of_lt_of_le (p.lo k (by rw [this]; decide)).2 hz⟩
  · obtain ⟨b', hb', hxx⟩ := p.px i' e' x he' hx'
    have h2 := k2 (3 + 2 * i') (by omega) (by omega)
    exact ⟨b', Nat.le_trans hb' hz, (hxx.same fun k e => (h2 k e).2).mono fun k _ e => (h2 k e).1⟩
  · by_cases h : i' = i
    · subst h
      rw [List.getElem?_set_self (by rw [p.ly]; exact hil)] at hy'
      simp only [Option.some.injEq] at hy'
      subst hy'
      rw [he] at he'
      simp only [Option.some.injEq] at he'
      subst he'
      refine ⟨b, T, Nat.le_trans hb hz, fun k e => ⟨(k4 k (hT0 k e).1 (hT0 k e).2).1, (hT0 k e).2⟩, hy.mono (fun k hk e => ?_) fun k e e' => ?_⟩
      · by_cases hkw : k < w.heap.size
        · rw [newOwn_old hkw]
          exact (hs k e).elim id fun e => by omega
        · exact newOwn_in (by omega) hk e
      · rw [(k4 k (hT0 k e).1 (hT0 k e).2).1] at e'
        omega
    · rw [List.getElem?_set_ne (fun e => h e.symm)] at hy'
      obtain ⟨b', T', hb', hT, hyy⟩ := p.py i' e' y he' hy'
      have h2 := k2 (4 + 2 * i') (by omega) (by omega)
      refine ⟨b', T', Nat.le_trans hb' hz, fun k e => ⟨(k4 k (hT k e).1 (hT k e).2).1, (hT k e).2⟩, (hyy.same (fun k e => e.elim (fun e => (h2 k e).2) fun e => (k4 k (hT k e).1 (hT k e).2).2) hz).mono (fun k _ e => (h2 k e).1) fun k e e' => ?_⟩
      rw [(k4 k (hT k e).1 (hT k e).2).1] at e'
      omega
end

end Go.Proofs.YthloffgebebijaaGreat

/- RigB: the walks of tillerlaw's sameEvents and sameCounts; the reference's Counts. -/
namespace Go.Proofs.YthloffgebebijaaGreat
open Go.RowKit

theorem EvP.rd {w : World} {base : Nat} {v : Value} {d : List Ev} (p : EvP w base v d) {i : Nat} {ev : Ev} (hev : d[i]? = some ev) : ∃ dg dc, v = .slice (some ⟨dg, 0, none⟩) d.length dc ∧ dg < w.heap.size ∧ w.cell? ⟨dg, i * 5, none⟩ = some (.int .i64 ev.kind) ∧ w.cell? ⟨dg, i * 5 + 1, none⟩ = some (.int .i64 ev.tick) ∧ w.cell? ⟨dg, i * 5 + 2, none⟩ = some (.int .i64 ev.job) ∧ w.cell? ⟨dg, i * 5 + 3, none⟩ = some (.int .i64 ev.task) ∧ w.cell? ⟨dg, i * 5 + 4, none⟩ = some (.int .i64 ev.deadline) := by
  have hil := lt_of_get hev
  obtain ⟨dg, dcap, hdg, -, -⟩ := ownsRow_some p (by omega)
  subst hdg
  refine ⟨dg, dcap, rfl, (ownsRow_lt p (k := dg) rfl).2, ?_⟩
  have h5 : ∀ c ∈ d.map evCells, c.length = 5 := by
    intro c hc
    obtain ⟨j, _, rfl⟩ := List.mem_map.1 hc
    rfl
  have hc : ∀ j v, j < 5 → (evCells ev)[j]? = some v → w.cell? ⟨dg, i * 5 + j, none⟩ = some v := fun j v hj hv => by
    have hg : (erow d)[i * 5 + j]? = some v := by
      rw [erow, flatten_get h5 i j hj, List.getElem?_map, hev]
      exact hv
    have h1 := World.ownsRow.cells (g := dg) p (by rfl) (i * 5 + j) _ hg
    rw [Addr.add] at h1
    split at h1
    · rename_i h0; rw [h0]; exact h1
    · simpa using h1
  exact ⟨hc 0 _ (by decide) rfl, hc 1 _ (by decide) rfl, hc 2 _ (by decide) rfl, hc 3 _ (by decide) rfl, hc 4 _ (by decide) rfl⟩

set_option maxRecDepth 100000 in
set_option maxHeartbeats 1600000 in
theorem sameEvents_true (b1 b2 : Nat) (va vb : Value) (es : List Ev) (w : World) (ha : EvP w b1 va es) (hb : EvP w b2 vb es) (hl : es.length ≤ 1000000000) :
    Calls Tryz.prog 43 #[va, vb] w fun e w' => e = .returned (.bool true) ∧ Below w.heap.size w w' := by
  have HA := hide ha
  have HB := hide hb
  obtain ⟨aa, ac, rfl⟩ := ownsRow_slice ha
  obtain ⟨ba, bc, rfl⟩ := ownsRow_slice hb
  generalize hn : es.length = n at *
  have HN := hide hn
  clear ha hb hn
  go_enter Tryz.func43, Tryz.ntmps43
  go_wp2_with fail
  go_loopg [5] n (fun g iv wr => ∃ i : Nat, iv = .int .i64 i ∧ g = n - i ∧ i ≤ n ∧ Below w.heap.size w wr)
  case atStart => exact ⟨0, rfl, by omega, Nat.zero_le _, Below.refl _ _⟩
  case round =>
    obtain ⟨i, rfl, hg, hil, hbe⟩ := hrel
    have HG := hide hg
    have HBE := hide hbe
    have hz := hbe.size
    clear hg
    by_cases hlt : i < n
    · have hii : (i : Int) < (n : Int) := by omega
      obtain ⟨ev, hev⟩ := get_of_lt (l := es) (k := i) (by rw [HN.out]; exact hlt)
      obtain ⟨ag, ac', hav, hal, a0, a1, a2, a3, a4⟩ := HA.out.rd hev
      obtain ⟨bg, bc', hbv, hbl, b0, b1', b2', b3, b4⟩ := HB.out.rd hev
      rw [HN.out] at hav hbv
      simp only [Value.slice.injEq, true_and] at hav hbv
      obtain ⟨rfl, rfl⟩ := hav
      obtain ⟨rfl, rfl⟩ := hbv
      have p0 := (hbe.cell (p := ⟨ag, i * 5, none⟩) hal).trans a0
      have p1 := (hbe.cell (p := ⟨ag, i * 5 + 1, none⟩) hal).trans a1
      have p2 := (hbe.cell (p := ⟨ag, i * 5 + 2, none⟩) hal).trans a2
      have p3 := (hbe.cell (p := ⟨ag, i * 5 + 3, none⟩) hal).trans a3
      have p4 := (hbe.cell (p := ⟨ag, i * 5 + 4, none⟩) hal).trans a4
      have q0 := (hbe.cell (p := ⟨bg, i * 5, none⟩) hbl).trans b0
      have q1 := (hbe.cell (p := ⟨bg, i * 5 + 1, none⟩) hbl).trans b1'
      have q2 := (hbe.cell (p := ⟨bg, i * 5 + 2, none⟩) hbl).trans b2'
      have q3 := (hbe.cell (p := ⟨bg, i * 5 + 3, none⟩) hbl).trans b3
      have q4 := (hbe.cell (p := ⟨bg, i * 5 + 4, none⟩) hbl).trans b4
      have har : ag < wr.heap.size := by omega
      have hbr : bg < wr.heap.size := by omega
      generalize ev.kind = e0 at *
      generalize ev.tick = e1 at *
      generalize ev.job = e2 at *
      generalize ev.task = e3 at *
      generalize ev.deadline = e4 at *
      clear a0 a1 a2 a3 a4 b0 b1' b2' b3 b4 hev hbe
      go_wp2_with fail
      go_roundg (n - (i + 1))
      case measure => have := HG.out; omega
      case rel => exact ⟨i + 1, by go_num, rfl, by omega, (HBE.out.alloc hz _).alloc (by simp; omega) _⟩
    · have hii : ¬ (i : Int) < (n : Int) := by omega
      go_wp2_with fail
      go_ret
      exact ⟨rfl, HBE.out⟩

set_option maxRecDepth 100000 in
set_option maxHeartbeats 1600000 in
theorem sameCounts_true (c0 c1 c2 c3 c4 c5 c6 c7 c8 : Int) (w : World) :
    Calls Tryz.prog 46 #[.agg #[.int .i64 c0, .int .i64 c1, .int .i64 c2, .int .i64 c3, .int .i64 c4, .int .i64 c5, .int .i64 c6, .int .i64 c7, .int .i64 c8], .agg #[.int .i64 c0, .int .i64 c1, .int .i64 c2, .int .i64 c3, .int .i64 c4, .int .i64 c5, .int .i64 c6, .int .i64 c7, .int .i64 c8]] w fun e w' => e = .returned (.bool true) ∧ Below w.heap.size w w' := by
  have HB : Hid (Below w.heap.size w ((w.alloc (.cells #[.int .i64 c0, .int .i64 c1, .int .i64 c2, .int .i64 c3, .int .i64 c4, .int .i64 c5, .int .i64 c6, .int .i64 c7, .int .i64 c8] 95)).alloc (.cells #[.int .i64 c0, .int .i64 c1, .int .i64 c2, .int .i64 c3, .int .i64 c4, .int .i64 c5, .int .i64 c6, .int .i64 c7, .int .i64 c8] 95))) := ((Below.refl _ _).alloc (Nat.le_refl _) _).alloc (by simp) _
  go_enter Tryz.func46, Tryz.ntmps46
  go_wp2_with fail
  go_ret
  exact ⟨rfl, HB.out⟩

theorem held_sum (ls : List (List Fd)) : (((ls.map List.length).sum : Nat) : Int) = held ls := by
  induction ls with
  | nil => rfl
  | cons l ls ih => rw [held_cons, List.map_cons, List.sum_cons, ← ih]; simp
theorem rCounts_rec {S T : Nat → Prop} {base Y : Nat} {N : Int} {x : Exs} {w : World} (h : Rec w S T base Y x) (hi : ExIn x N) :
    Calls Tryz.prog 38 #[.pointer (some ⟨Y, 0, none⟩)] w fun e w' => e = .returned (countsV x) ∧ Below w.heap.size w w' := by
  obtain ⟨L, tv, jv, lvs, h⟩ := h
  obtain ⟨ja, jc, rfl⟩ := ownsRow_slice h.jbs
  obtain ⟨⟨c1, c2⟩, -⟩ := cfgNum hi.cfg
  have hnl := hi.nl
  have hlen := h.len
  refine (rCounts_any Y w.heap.size x.cfg.lines x.cfg.room x.cfg.poll x.cfg.idle x.cfg.sw x.clock x.fed x.ct.jobs x.ct.done x.ct.lost x.ct.unknown x.ct.bad x.ct.spilled tv (.slice (some ⟨L, 0, none⟩) lvs.length lvs.length) ja x.jobs.length jc (x.lines.map List.length) w h.blk ⟨some ⟨L, 0, none⟩, lvs.length, by rw [List.length_map, hlen], .inr ⟨L, 0, rfl, h.lns.lt, fun i n hn => ?_⟩⟩ (Nat.le_refl _) (by rw [List.length_map]; omega) (fun n hn => ?_)).mono ?_
  · rw [List.getElem?_map] at hn
    obtain ⟨l, hl, rfl⟩ := Option.map_eq_some_iff.1 hn
    obtain ⟨v, hv⟩ := get_of_lt (l := lvs) (k := i) (by rw [hlen]; exact lt_of_get hl)
    obtain ⟨a, c, hve⟩ := ownsRow_slice (h.row i v l hv hl)
    refine ⟨a, c, ?_⟩
    rw [Nat.zero_add, h.lns.cell i]
    simp [hv, hve]
  · obtain ⟨l, hl, rfl⟩ := List.mem_map.1 hn
    exact (hi.ln l hl).len
  · rintro e w' ⟨rfl, hb⟩
    rw [held_sum]
    exact ⟨rfl, hb⟩

end Go.Proofs.YthloffgebebijaaGreat

/- RigC: what the calls of the executives make of the rig. -/
namespace Go.Proofs.YthloffgebebijaaGreat
open Go.RowKit Go.MuLone

set_option maxRecDepth 100000 in
set_option maxHeartbeats 400000 in
theorem lawPick_any (c n : Int) (w : World) (hc : In64 c) (hn : 0 < n) (hn' : n ≤ 9223372036854775807) :
    Calls Tryz.prog 16 #[.int .i64 c, .int .i64 n] w fun e w' => e = .returned (.int .i64 (pk c n)) ∧ w = w' := by
  obtain ⟨h1, h2⟩ := hc
  have hz : (n == 0) = false := by simp; omega
  by_cases h : c < 0
  · go_enter Tryz.func16, Tryz.ntmps16
    go_wp2
    go_ret
    refine ⟨ret_int ?_, rfl⟩
    rw [pk, if_pos h, ← Int.tmod_eq_emod_of_nonneg (by omega), Int.neg_tmod]
  · go_enter Tryz.func16, Tryz.ntmps16
    go_wp2
    go_ret
    refine ⟨ret_int ?_, rfl⟩
    rw [pk, if_neg (by omega)]

/-- A string turned into bytes. -/
theorem conv_strR (s : ByteArray) (w : World) : ∃ cap W, (convert 9 57 (.string s)).run Tryz.prog w = .ok (.slice (some ⟨w.heap.size, 0, none⟩) s.size cap) W ∧ Below w.heap.size w W ∧ Rd8 W W.heap.size (.slice (some ⟨w.heap.size, 0, none⟩) s.size cap) (sbytes s) := by
  refine ⟨_, _, run_bytes_of_string (P := Tryz.prog) w 9 57 5 s Tryz.underlying9 Tryz.underlying57 Tryz.underlying5, ?_, ?_⟩
  · exact (show Below w.heap.size w w.drew from (Below.refl _ _).drew).alloc (Nat.le_refl _) _
  · refine ⟨_, _, by rw [sbytes_length], by rw [sbytes_length]; exact grownCap_ge w s.size 0 _, .inr ⟨w.heap.size, 0, rfl, by simp, fun i x hi => ?_⟩⟩
    rw [Nat.zero_add, cell_of_row _ w.heap.size i _ _ _ (heap_alloc_new w.drew _)]
    have hlt := lt_of_get hi
    rw [sbytes_length] at hlt
    unfold bytesRow
    rw [Array.getElem?_append_left (by rw [Array.size_map]; exact hlt)]
    simp only [sbytes, List.getElem?_map, Array.getElem?_toList] at hi
    rw [Array.getElem?_map]
    cases hd : s.data[i]? with
    | none => rw [hd] at hi; simp at hi
    | some y => rw [hd] at hi; simp at hi; subst hi; rfl

/-- What was lent or is new reads outside the blocks that anybody owns. -/
theorem Rd8.byt {w : World} {B : Nat} {S : Nat → Prop} {v : Value} {bs : List Int} (h : Rd8 w B v bs) (hB : B ≤ w.heap.size) (hS : ∀ g, v.ownBlock = some g → ¬ S g) (hv : bs = [] ∨ ∃ g n c, v = .slice (some ⟨g, 0, none⟩) n c) : BytV w S v bs := by
  obtain ⟨a, cap, rfl, hc, h⟩ := h
  refine ⟨a, cap, rfl, hc, ?_⟩
  rcases h with h | ⟨b, o, rfl, hb, hx⟩
  · exact .inl h
  · rcases hv with hv | ⟨g, n, c, hv⟩
    · exact .inl hv
    · simp only [Value.slice.injEq, Option.some.injEq, Addr.mk.injEq] at hv
      obtain ⟨⟨rfl, rfl, _⟩, _, _⟩ := hv
      exact .inr ⟨b, 0, rfl, by omega, hS b rfl, hx⟩

section
variable {w : World} {own : Nat → Nat} {B Q : Nat} {psv : Value} {nb ni ne nl nt : Nat} {es : List (Nat × Nat)} {xs ys : List Exs} {i : Nat} {e : Nat × Nat} {x y : Exs} {N : Int}
/-- What a call leaves. -/
def Goes (w w' : World) (own own' : Nat → Nat) : Prop := Fr (fun k => own k ≠ 0) w w' ∧ ∀ k, k < w.heap.size → own' k = own k
theorem Rig.cntY (p : Rig w own B Q psv nb ni ne nl nt es xs ys) (he : es[i]? = some e) (hy : ys[i]? = some y) (hi : ExIn y N) :
    Calls Tryz.prog 38 #[.pointer (some ⟨e.2, 0, none⟩)] w fun r w' => r = .returned (countsV y) ∧ Below w.heap.size w w' := by
  obtain ⟨b, T, hb, hT, hy⟩ := p.py i e y he hy
  exact rCounts_rec hy hi
theorem Rig.cntX (p : Rig w own B Q psv nb ni ne nl nt es xs ys) (hB : B ≤ w.heap.size) (he : es[i]? = some e) (hx : xs[i]? = some x) (hi : ExIn x N) :
    Calls Tryz.prog 45 #[.pointer (some ⟨e.1, 0, none⟩)] w fun r w' => r = .returned (countsV x) ∧ ∃ own', Rig w' own' B Q psv nb ni ne nl nt es xs ys ∧ Goes w w' own own' := by
  obtain ⟨b, hb, hX⟩ := p.px i e x he hx
  refine (xCounts_any _ b e.1 N x w hX hi).mono ?_
  rintro r w' ⟨rfl, h2, h3⟩
  have hown : own e.1 = 3 + 2 * i := by
    obtain ⟨dv, qv, L, vs, hs, h⟩ := hX
    exact h.sx
  have hf : Fr (fun k => own k = 3 + 2 * i) w w' := h3.mono fun q _ e => by rw [e]; exact hown
  have h4 := p.turnX hB he hb h2 (fun k e => .inl e) hf
  have hset : xs.set i x = xs := by
    apply List.ext_getElem?
    intro j
    by_cases e : i = j
    · subst e
      rw [List.getElem?_set_self (lt_of_get hx), hx]
    · rw [List.getElem?_set_ne e]
  rw [hset] at h4
  exact ⟨rfl, _, h4, hf.mono fun q _ e => by rw [e]; omega, fun k hk => newOwn_old hk⟩
theorem Rig.feedX (p : Rig w own B Q psv nb ni ne nl nt es xs ys) (hB : B ≤ w.heap.size) (he : es[i]? = some e) (hx : xs[i]? = some x) (hi : ExIn x N) (n t : Int) {bv : Value} {bs : List Int} (hb : BytV w (fun k => own k ≠ 0) bv bs) (hbl : bs.length ≤ 140737488355328) :
    Calls Tryz.prog 39 #[.pointer (some ⟨e.1, 0, none⟩), .int .i64 n, .int .i64 t, bv] w fun r w' => r = .returned (.int .i64 (exFeed x n t bs).2) ∧ ∃ own', Rig w' own' B Q psv nb ni ne nl nt es (xs.set i (exFeed x n t bs).1) ys ∧ Goes w w' own own' := by
  obtain ⟨b, hbz, hX⟩ := p.px i e x he hx
  refine (xFeed_any _ b e.1 N n t x bv bs w hX (hb.mono fun k e => by rw [e]; omega) hbl hbz hi).mono ?_
  rintro r w' ⟨rfl, h2, h3⟩
  exact ⟨rfl, _, p.turnX hB he hbz h2 (fun k e => e) h3, h3.mono fun q _ e => by rw [e]; omega, fun k hk => newOwn_old hk⟩
theorem Rig.feedY (p : Rig w own B Q psv nb ni ne nl nt es xs ys) (hB : B ≤ w.heap.size) (he : es[i]? = some e) (hy : ys[i]? = some y) (hi : ExIn y N) (n t : Int) {bv : Value} {bs : List Int} (hb : BytV w (fun k => own k ≠ 0) bv bs) (hbl : bs.length ≤ 140737488355328) :
    Calls Tryz.prog 40 #[.pointer (some ⟨e.2, 0, none⟩), .int .i64 n, .int .i64 t, bv] w fun r w' => r = .returned (.int .i64 (exFeed y n t bs).2) ∧ ∃ own', Rig w' own' B Q psv nb ni ne nl nt es xs (ys.set i (exFeed y n t bs).1) ∧ Goes w w' own own' := by
  obtain ⟨b, T, hbz, hT, hY⟩ := p.py i e y he hy
  refine (rFeed_any _ T b e.2 N n t y bv bs w hY (hb.mono fun k e => by rw [e]; omega) hbl hbz hi).mono ?_
  rintro r w' ⟨rfl, h2, h3⟩
  exact ⟨rfl, _, p.turnY hB he hbz hT h2 (fun k e => e) h3, h3.mono fun q _ e => by rw [e]; omega, fun k hk => newOwn_old hk⟩
open Classical in
theorem Rig.runX (p : Rig w own B Q psv nb ni ne nl nt es xs ys) (hB : B ≤ w.heap.size) (he : es[i]? = some e) (hx : xs[i]? = some x) (hi : ExIn x N) (u : Int) :
    Calls Tryz.prog 41 #[.pointer (some ⟨e.1, 0, none⟩), .int .i64 u] w fun r w' => ∃ ev, r = .returned ev ∧ EvP w' w.heap.size ev (exRun u 3000 x).2 ∧ ∃ own', Rig w' own' B Q psv nb ni ne nl nt es (xs.set i (exRun u 3000 x).1) ys ∧ Goes w w' own own' ∧ ∀ k, ev.ownBlock = some k → own' k = 0 := by
  obtain ⟨b, hbz, hX⟩ := p.px i e x he hx
  refine (xRun_any _ b e.1 N u x w hX hbz hi).mono ?_
  rintro r w' ⟨ev, rfl, h2, ⟨S', h3, h4, h5⟩, h6⟩
  refine ⟨ev, rfl, h2, _, p.turnX hB he hbz h3 h4 h6, ⟨h6.mono fun q _ e => by rw [e]; omega, fun k hk => newOwn_old hk⟩, fun k hk => ?_⟩
  rcases newOwn_cases (own := own) (w := w) (w' := w') (S' := S') (j := 3 + 2 * i) k with h | h
  · exact absurd h.2.2.2 (h5 k hk)
  · rw [h]
    have h7 := (ownsRow_lt h2 hk).1
    by_cases h0 : own k = 0
    · exact h0
    · have := (p.lo k h0).2; omega
theorem Rig.runY (p : Rig w own B Q psv nb ni ne nl nt es xs ys) (hB : B ≤ w.heap.size) (he : es[i]? = some e) (hy : ys[i]? = some y) (hi : ExIn y N) (u : Int) :
    Calls Tryz.prog 42 #[.pointer (some ⟨e.2, 0, none⟩), .int .i64 u] w fun r w' => ∃ ev, r = .returned ev ∧ EvP w' w.heap.size ev (exRun u 3000 y).2 ∧ ∃ own', Rig w' own' B Q psv nb ni ne nl nt es xs (ys.set i (exRun u 3000 y).1) ∧ Goes w w' own own' := by
  obtain ⟨b, T, hbz, hT, hY⟩ := p.py i e y he hy
  refine (rRun_any _ T b e.2 N u y w hY (fun q e => (p.lo q (by rw [e]; omega)).2) hbz hi).mono ?_
  rintro r w' ⟨ev, rfl, h2, ⟨S', h3, h4, h5⟩, h6⟩
  exact ⟨ev, rfl, h2, _, p.turnY hB he hbz hT h3 (fun k e => (h4 k e).1) h6, h6.mono fun q _ e => by rw [e]; omega, fun k hk => newOwn_old hk⟩
theorem Goes.below {w' : World} {own' : Nat → Nat} (p : Rig w own B Q psv nb ni ne nl nt es xs ys) (hB : B ≤ w.heap.size) (g : Goes w w' own own') : Below B w w' := g.1.below hB fun k e => (p.lo k e).1
open Classical in
/-- The book takes a list of events that came out. -/
theorem Rig.event (p : Rig w own B Q psv nb ni ne nl nt es xs ys) (hB : B ≤ w.heap.size) {l : Value} {n : Nat} {zs : List Value} (ho : w.ownsRow B 149 5 l n zs) (hl : ∀ k, l.ownBlock = some k → own k = 0 ∧ Q ≤ k) (hn : n ≤ 1000000) (hnn : ne ≤ 1300000000000) :
    Calls Tryz.prog 44 #[.pointer (some ⟨B, 1, none⟩), l] w fun r w' => r = .returned (.tuple #[]) ∧ ∃ own', Rig w' own' B Q psv nb ni (ne + 1) nl nt es xs ys ∧ Fr (fun k => own k ≠ 0 ∨ l.ownBlock = some k) w w' := by
  refine (bookE_any _ B B psv nb ni ne nl nt l n zs w p.bk hB ho (fun k e e' => by rw [(hl k e).1] at e'; omega) hn hnn).mono ?_
  rintro r w' ⟨rfl, S', h2, h3, h4, h5⟩
  have hz := h5.size
  have hX : ∀ q, q ≠ 1 → q ≠ 0 → ∀ k, own k = q → w'.heap[k]? = w.heap[k]? := fun q h1 h0 k e => h5.block k (p.lo k (by rw [e]; exact h0)).2 fun e' => by
    rcases e' with e' | e'
    · exact h1 (e.symm.trans e')
    · exact h0 (e.symm.trans (hl k e').1)
  have hT : ∀ k, own k = 0 → k < Q → w'.heap[k]? = w.heap[k]? := fun k e hk => h5.block k (by have := p.qs; omega) fun e' => by
    rcases e' with e' | e'
    · rw [e] at e'; omega
    · have := (hl k e').2; omega
  obtain ⟨own', hown⟩ : ∃ f : Nat → Nat, f = fun k => if S' k then 1 else own k := ⟨_, rfl⟩
  have h1 : ∀ k, S' k → own' k = 1 := fun k e => by rw [hown]; simp only; rw [if_pos e]
  have h0 : ∀ k, ¬ S' k → own' k = own k := fun k e => by rw [hown]; simp only; rw [if_neg e]
  have hS0 : ∀ k, S' k → own k = 1 ∨ own k = 0 := fun k e => by
    rcases h4 k e with e | e | e
    · exact .inl e
    · exact .inr (hl k e).1
    · by_cases h : own k = 0
      · exact .inr h
      · have := (p.lo k h).2; omega
  have hq : ∀ q, q ≠ 1 → q ≠ 0 → ∀ k, own k = q → own' k = q := fun q n1 n0 k e => by
    rw [h0 k fun e' => (hS0 k e').elim (fun e2 => n1 (e.symm.trans e2)) fun e2 => n0 (e.symm.trans e2)]
    exact e
  have hq' : ∀ q, q ≠ 1 → ∀ k, own' k = q → own k = q := fun q n1 k e => by
    by_cases h : S' k
    · rw [h1 k h] at e; exact absurd e.symm n1
    · rw [h0 k h] at e; exact e
  have hT' : ∀ k, own k = 0 → k < Q → own' k = 0 := fun k e hk => by
    rw [h0 k fun e' => ?_]
    · exact e
    · rcases h4 k e' with e2 | e2 | e2
      · rw [e] at e2; omega
      · have := (hl k e2).2; omega
      · have := p.qs; omega
  refine ⟨rfl, own', ⟨fun k e => ?_, Nat.le_trans p.qs hz, ?_, ownsRow_same p.row fun k e => hX 2 (by decide) (by decide) k (p.ro k e), fun k e => hq 2 (by decide) (by decide) k (p.ro k e), p.lx, p.ly, fun i e x he hx => ?_, fun i e y he hy => ?_⟩, h5.mono fun k _ e => e.imp (fun e => by rw [e]; decide) id⟩
  · by_cases h : S' k
    · exact h2.1 k h
    · rw [h0 k h] at e
      exact ⟨(p.lo k e).1, Nat.lt_of_lt_of_le (p.lo k e).2 hz⟩
  · refine h2.wide h1 fun k e => ?_
    by_cases h : S' k
    · exact h2.1 k h
    · rw [h0 k h] at e
      exact absurd (h3 k e) h
  · obtain ⟨b, hb, hx'⟩ := p.px i e x he hx
    exact ⟨b, Nat.le_trans hb hz, (hx'.same fun k e => hX _ (by omega) (by omega) k e).mono fun k _ e => hq _ (by omega) (by omega) k e⟩
  · obtain ⟨b, T, hb, hT2, hy'⟩ := p.py i e y he hy
    refine ⟨b, T, Nat.le_trans hb hz, fun k e => ⟨hT' k (hT2 k e).1 (hT2 k e).2, (hT2 k e).2⟩, (hy'.same (fun k e => e.elim (fun e => hX _ (by omega) (by omega) k e) fun e => hT k (hT2 k e).1 (hT2 k e).2) hz).mono (fun k _ e => hq _ (by omega) (by omega) k e) fun k e e' => ?_⟩
    rw [hT' k (hT2 k e).1 (hT2 k e).2] at e'
    omega
end

end Go.Proofs.YthloffgebebijaaGreat

/- RigE: the walk of tillerlaw's (*World).made. -/
namespace Go.Proofs.YthloffgebebijaaGreat
open Go.RowKit Go.MuLone

theorem info_pair : (Tryz.prog.info? 49).map (fun i => (i.zero, i.size, i.bytes)) = some (some (.agg #[.pointer none, .pointer none]), 2, 16) := by kernel_rfl
/-- The value reads as the step; its tasks lie in blocks of T. -/
def OpQ (w : World) (T : Nat → Prop) (v : Value) (o : Stp) : Prop :=
  ∃ t, v = .agg #[.int .i64 o.kind, .int .i64 o.a, .int .i64 o.b, .int .i64 o.c, .string o.s, .int .i64 o.cfg.lines, .int .i64 o.cfg.room, .int .i64 o.cfg.poll, .int .i64 o.cfg.idle, .int .i64 o.cfg.sw, t] ∧ TasksQ w T t o.cfg.tasks
theorem OpQ.op1 {w : World} {T : Nat → Prop} {v : Value} {o : Stp} {B : Nat} (h : OpQ w T v o) (hT : ∀ k, T k → k < B) : Op1 w B v o := by
  obtain ⟨t, hv, ht⟩ := h
  exact ⟨t, hv, ht.tasks hT⟩
/-- The list of pairs turns. -/
theorem BookAt.ps {w : World} {S : Nat → Prop} {B W : Nat} {ps : Value} {nb ni ne nl nt : Nat} (h : BookAt w S B W ps nb ni ne nl nt) (ps' : Value) : BookAt (w.setCell ⟨W, 0, none⟩ ps') S B W ps' nb ni ne nl nt := by
  obtain ⟨h1, h2, vb, vi, ve, vl, vt, hb, e1, e2, e3, e4, e5⟩ := h
  have hk : KeepBut 36 0 w (w.setCell ⟨W, 0, none⟩ ps') := ⟨rfl, rfl, rfl, by simp, fun k hk hor => by
    refine heap_setCell_other w ⟨W, 0, none⟩ k _ fun e => ?_
    rcases hor with hor | hor
    · omega
    · subst e
      exact hor _ _ hb⟩
  refine ⟨fun k hk => by simpa using h1 k hk, h2, vb, vi, ve, vl, vt, ?_, e1.keptBut hk (by decide) (by decide), e2.keptBut hk (by decide) (by decide), e3.keptBut hk (by decide) (by decide), e4.keptBut hk (by decide) (by decide), e5.keptBut hk (by decide) (by decide)⟩
  exact hb.set 0 ps'

open Classical in
/-- A pair more: the program's executive in the blocks from a on below b, the reference's from c on below d. -/
theorem Rig.more {w w8 : World} {own : Nat → Nat} {B Q : Nat} {psv v8 : Value} {nb ni ne nl nt : Nat} {es : List (Nat × Nat)} {xs : List Exs} (p : Rig w own B Q psv nb ni ne nl nt es xs xs) (hB : B ≤ w.heap.size) {a b c d X Y : Nat} {x : Exs} {T : Nat → Prop} (hab : w.heap.size ≤ a ∧ a ≤ b ∧ b ≤ c ∧ c ≤ d ∧ d ≤ w8.heap.size) (hf : Fr (fun k => psv.ownBlock = some k) w w8)
    (hx : Xec w8 (fun k => a ≤ k ∧ k < b) a X x) (hT : ∀ k, T k → k < w.heap.size ∧ own k = 0) (hy : Rec w8 (fun k => c ≤ k ∧ k < d) T c Y x) (hr : w8.ownsRow B 49 2 v8 (es.length + 1) (prow (es ++ [(X, Y)]))) (ho : v8.ownBlock = psv.ownBlock ∨ ∃ k, v8.ownBlock = some k ∧ d ≤ k) :
    ∃ own', Rig (w8.setCell ⟨B, 0, none⟩ v8) own' B w.heap.size v8 nb ni ne nl nt (es ++ [(X, Y)]) (xs ++ [x]) (xs ++ [x]) := by
  have hz := hf.size
  have hzs : (w8.setCell ⟨B, 0, none⟩ v8).heap.size = w8.heap.size := by simp
  have hB1 : own B = 1 := p.bk.2.1
  have hBw := (p.lo B (by rw [hB1]; decide)).2
  obtain ⟨own', hown⟩ : ∃ f : Nat → Nat, f = fun k => if a ≤ k ∧ k < b then 3 + 2 * es.length else if c ≤ k ∧ k < d then 4 + 2 * es.length else if v8.ownBlock = some k then 2 else own k := ⟨_, rfl⟩
  have hold : ∀ k, k < w.heap.size → own' k = own k := fun k hk => by
    rw [hown]
    simp only
    rw [if_neg (by omega), if_neg (by omega)]
    split
    · rename_i e
      rcases ho with ho | ⟨q, ho, hq⟩
      · rw [ho] at e; exact (p.ro k e).symm
      · rw [ho] at e; simp only [Option.some.injEq] at e; omega
    · rfl
  have hnew : ∀ k, own k = 0 → w.heap.size ≤ k → own' k = if a ≤ k ∧ k < b then 3 + 2 * es.length else if c ≤ k ∧ k < d then 4 + 2 * es.length else if v8.ownBlock = some k then 2 else 0 := fun k h0 _ => by
    rw [hown]
    simp only
    rw [h0]
  have hown0 : ∀ k, w.heap.size ≤ k → own k = 0 := fun k hk => by
    by_cases h : own k = 0
    · exact h
    · have := (p.lo k h).2; omega
  have hlo : ∀ k, own' k ≠ 0 → B ≤ k ∧ k < w8.heap.size := fun k e => by
    by_cases hk : k < w.heap.size
    · rw [hold k hk] at e
      exact ⟨(p.lo k e).1, by omega⟩
    · refine ⟨by omega, ?_⟩
      rw [hnew k (hown0 k (by omega)) (by omega)] at e
      split at e
      · omega
      · split at e
        · omega
        · split at e
          · rename_i e'
            exact (ownsRow_lt hr e').2
          · exact absurd rfl e
  have hkeep : ∀ k, k < w.heap.size → own k ≠ 2 → w8.heap[k]? = w.heap[k]? := fun k hk e => hf.block k hk fun e' => e (p.ro k e')
  have hset : ∀ k, k ≠ B → (w8.setCell ⟨B, 0, none⟩ v8).heap[k]? = w8.heap[k]? := fun k e => heap_setCell_other w8 ⟨B, 0, none⟩ k _ e
  have hbk : BookAt w8 (fun k => own k = 1) B B psv nb ni ne nl nt := p.bk.same (fun k e => hkeep k (p.lo k (by rw [e]; decide)).2 (by rw [e]; decide)) hz
  have hv8B : v8.ownBlock ≠ some B := by
    obtain ⟨_, _, vb, vi, ve, vl, vt, hb, _⟩ := hbk
    exact ownsRow_ne_blk hr hb (by decide)
  have hold1 : ∀ q, q ≠ 0 → ∀ k, own k = q → k < w.heap.size ∧ own' k = q := fun q hq k e => by
    have := (p.lo k (by rw [e]; exact hq)).2
    exact ⟨this, by rw [hold k this]; exact e⟩
  refine ⟨own', fun k e => by rw [hzs]; exact hlo k e, by rw [hzs]; exact hz, ?_, ?_, fun k e => ?_, by simp [p.lx], by simp [p.ly], fun i e y he hy' => ?_, fun i e y he hy' => ?_⟩
  · refine (hbk.ps v8).wide (fun k e => (hold1 1 (by decide) k e).2) fun k e => ?_
    have := hlo k (by rw [e]; decide)
    exact ⟨this.1, by rw [hzs]; exact this.2⟩
  · rw [List.length_append]
    exact ownsRow_same hr fun k e => hset k fun e' => hv8B (e' ▸ e)
  · by_cases hk : k < w.heap.size
    · rw [hold k hk]
      rcases ho with ho | ⟨q, ho, hq⟩
      · rw [ho] at e; exact p.ro k e
      · rw [ho] at e; simp only [Option.some.injEq] at e; omega
    · rw [hnew k (hown0 k (by omega)) (by omega)]
      have hkd : d ≤ k := by
        rcases ho with ho | ⟨q, ho, hq⟩
        · rw [ho] at e
          have := (p.lo k (by rw [p.ro k e]; decide)).2
          omega
        · rw [ho] at e; simp only [Option.some.injEq] at e; omega
      rw [if_neg (by omega), if_neg (by omega), if_pos e]
  · by_cases hi : i < es.length
    · rw [List.getElem?_append_left hi] at he
      rw [List.getElem?_append_left (by rw [p.lx]; exact hi)] at hy'
      obtain ⟨b', hb', hxx⟩ := p.px i e y he hy'
      refine ⟨b', by rw [hzs]; omega, (hxx.same fun k e => ?_).mono fun k _ e => (hold1 _ (by omega) k e).2⟩
      rw [hset k fun e' => by rw [e', hB1] at e; omega]
      exact hkeep k (hold1 _ (by omega) k e).1 (by rw [e]; omega)
    · have hil := lt_of_get he
      rw [List.length_append] at hil
      simp only [List.length_cons, List.length_nil] at hil
      have hie : i = es.length := by omega
      subst hie
      rw [List.getElem?_append_right (Nat.le_refl _), Nat.sub_self] at he
      rw [List.getElem?_append_right (by rw [p.lx]; exact Nat.le_refl _), p.lx, Nat.sub_self] at hy'
      simp only [List.getElem?_cons_zero, Option.some.injEq] at he hy'
      subst he
      subst hy'
      refine ⟨a, by rw [hzs]; omega, (hx.same fun k e => hset k (by omega)).mono fun k _ e => ?_⟩
      rw [hnew k (hown0 k (by omega)) (by omega), if_pos e]
  · by_cases hi : i < es.length
    · rw [List.getElem?_append_left hi] at he
      rw [List.getElem?_append_left (by rw [p.ly]; exact hi)] at hy'
      obtain ⟨b', T', hb', hT', hyy⟩ := p.py i e y he hy'
      have hTT : ∀ k, T' k → k < w.heap.size ∧ own' k = 0 := fun k e => by
        have h1 := hT' k e
        have h2 := p.qs
        exact ⟨by omega, by rw [hold k (by omega)]; exact h1.1⟩
      refine ⟨b', T', by rw [hzs]; omega, fun k e => ⟨(hTT k e).2, (hTT k e).1⟩, (hyy.same (fun k e => ?_) (by rw [hzs]; exact hz)).mono (fun k _ e => (hold1 _ (by omega) k e).2) fun k e e' => by rw [(hTT k e).2] at e'; omega⟩
      rcases e with e | e
      · rw [hset k fun e' => by rw [e', hB1] at e; omega]
        exact hkeep k (hold1 _ (by omega) k e).1 (by rw [e]; omega)
      · rw [hset k fun e' => by rw [e'] at e; rw [(hT' B e).1] at hB1; omega]
        exact hkeep k (hTT k e).1 (by rw [(hT' k e).1]; decide)
    · have hil := lt_of_get he
      rw [List.length_append] at hil
      simp only [List.length_cons, List.length_nil] at hil
      have hie : i = es.length := by omega
      subst hie
      rw [List.getElem?_append_right (Nat.le_refl _), Nat.sub_self] at he
      rw [List.getElem?_append_right (by rw [p.ly]; exact Nat.le_refl _), p.ly, Nat.sub_self] at hy'
      simp only [List.getElem?_cons_zero, Option.some.injEq] at he hy'
      subst he
      subst hy'
      refine ⟨c, T, by rw [hzs]; omega, fun k e => ⟨by rw [hold k (hT k e).1]; exact (hT k e).2, (hT k e).1⟩, (hy.same (fun k e => hset k fun e' => ?_) (by rw [hzs]; exact Nat.le_refl _)).mono (fun k _ e => ?_) fun k e e' => ?_⟩
      · subst e'
        rcases e with e | e
        · omega
        · rw [(hT k e).2] at hB1; omega
      · rw [hnew k (hown0 k (by omega)) (by omega), if_neg (by omega), if_pos e]
      · rw [hold k (hT k e).1, (hT k e).2] at e'; omega

theorem Rig.raise {w : World} {own : Nat → Nat} {B Q Q' : Nat} {psv : Value} {nb ni ne nl nt : Nat} {es : List (Nat × Nat)} {xs ys : List Exs} (p : Rig w own B Q psv nb ni ne nl nt es xs ys) (h1 : Q ≤ Q') (h2 : Q' ≤ w.heap.size) : Rig w own B Q' psv nb ni ne nl nt es xs ys :=
  ⟨p.lo, h2, p.bk, p.row, p.ro, p.lx, p.ly, p.px, fun i e y he hy => by
    obtain ⟨b, T, hb, hT, hr⟩ := p.py i e y he hy
    exact ⟨b, T, hb, fun k e => ⟨(hT k e).1, Nat.lt_of_lt_of_le (hT k e).2 h1⟩, hr⟩⟩

/-- An append to a row of the script's own, however long. -/
theorem wp_appFar {o : Oper} {a : Act} {w : World} {K : Act → World → Prop} {Q : Exit → Act → World → Prop} (s x : Operand) (t e : TypeId) (z : Value) (size bytes : Nat)
    (ho : o.op = .call { callee := .builtin .append, args := #[s, x], argTypes := #[t, t] }) (ht : Tryz.prog.underlying t = some (.slice e)) (hinfo : (Tryz.prog.info? e).map (fun i => (i.zero, i.size, i.bytes)) = some (some z, size, bytes)) (hzs : z.cells.size = size) (hsz : 0 < size) (hby : bytes ≤ 64)
    (base b2 : Nat) (v u : Value) (n m : Nat) (xs ys : List Value) (hs : a.eval s = v) (hown : w.ownsRow base e size v n xs) (hx : a.eval x = u) (hu : Win w b2 e size u m ys) (h1 : ∀ u ∈ ys, u.oneCell' = true) (hlen : n + m ≤ 2000000000000) (hbase : base ≤ w.heap.size)
    (h : ∀ v' w', w'.ownsRow base e size v' (n + m) (xs ++ ys) → w.grownBy w' v.ownBlock → (v'.ownBlock = v.ownBlock ∨ v'.ownBlock = some w.heap.size) → K (a.put o.dst v') w') :
    Oper.wp Tryz.prog o a w K Q := by
  obtain ⟨i0, hi0, hz0, hz1, hz2⟩ := info_parts hinfo
  rcases hu with ⟨rfl, rfl, rfl⟩ | ⟨g, off, cap, cur, rfl, h2, h3, h4, h5, h6, h7⟩
  · have hrun := run_append_owned_none (P := Tryz.prog) (w := w) base t o.type e i0 size ht hi0 v n xs hown
    unfold Oper.wp execOp
    simp only [ho, resolve, invoke, builtin, Sem.run_bind, Sem.run_pure, Result.andThen_ok, List.map_toArray, List.map_cons, List.map_nil, hs, hx, hrun]
    exact h v w (by rw [List.append_nil]; exact hown) ⟨rfl, rfl, rfl, Nat.le_refl _, fun _ _ _ => rfl⟩ (.inl rfl)
  · have hcells : ∀ j q, ys[j]? = some q → w.cell? ((⟨g, off, none⟩ : Addr).add j) = some q := fun j q hj => by
      rw [Addr.add]
      split
      · rename_i h0
        subst h0
        exact (h5.cell off).trans (h7 0 q hj)
      · exact (h5.cell (off + j)).trans (h7 j q hj)
    have hbb : (n + m) * bytes ≤ 140737488355328 := Nat.le_trans (Nat.mul_le_mul hlen hby) (by decide)
    obtain ⟨v', w', hr, h2, h3, -, h5⟩ := run_append_own_at (P := Tryz.prog) w base t o.type e i0 z size bytes ht hi0 hz0 hz1 hz2 hzs hsz v n xs hown ⟨g, off, none⟩ m cap ys h6 hcells h1 (by unfold maxLen; omega) hbb hbase
    unfold Oper.wp execOp
    simp only [ho, resolve, invoke, builtin, Sem.run_bind, Sem.run_pure, Result.andThen_ok, List.map_toArray, List.map_cons, List.map_nil, hs, hx, hr]
    exact h v' w' h2 h3 h5
theorem wpList_appFar {w : World} {ops : Array Oper} {rest : List Oper} {o : Oper} {a : Act} {Q : Exit → Act → World → Prop} (hgd : o.guard = none) (s x : Operand) (t e : TypeId) (z : Value) (size bytes : Nat)
    (ho : o.op = .call { callee := .builtin .append, args := #[s, x], argTypes := #[t, t] }) (ht : Tryz.prog.underlying t = some (.slice e)) (hinfo : (Tryz.prog.info? e).map (fun i => (i.zero, i.size, i.bytes)) = some (some z, size, bytes)) (hzs : z.cells.size = size) (hsz : 0 < size) (hby : bytes ≤ 64)
    (base b2 : Nat) (v u : Value) (n m : Nat) (xs ys : List Value) (hs : a.eval s = v) (hown : w.ownsRow base e size v n xs) (hx : a.eval x = u) (hu : Win w b2 e size u m ys) (h1 : ∀ u ∈ ys, u.oneCell' = true) (hlen : n + m ≤ 2000000000000) (hbase : base ≤ w.heap.size)
    (h : ∀ v' w', w'.ownsRow base e size v' (n + m) (xs ++ ys) → w.grownBy w' v.ownBlock → (v'.ownBlock = v.ownBlock ∨ v'.ownBlock = some w.heap.size) → wpList Tryz.prog ops Q rest (a.put o.dst v') w') :
    wpList Tryz.prog ops Q (o :: rest) a w :=
  wpList_plain hgd fun _ hK => wp_appFar s x t e z size bytes ho ht hinfo hzs hsz hby base b2 v u n m xs ys hs hown hx hu h1 hlen hbase fun v' w' h1 h2 h3 => hK _ _ (h v' w' h1 h2 h3)

set_option maxRecDepth 100000 in
set_option maxHeartbeats 3200000 in
theorem made_true (own : Nat → Nat) (B Q : Nat) (Tq : Nat → Prop) (psv : Value) (nb ni ne nl nt : Nat) (es : List (Nat × Nat)) (xs : List Exs) (v : Value) (o : Stp) (w : World) (p : Rig w own B Q psv nb ni ne nl nt es xs xs) (hB : B ≤ w.heap.size) (hv : OpQ w Tq v o) (hTq : ∀ k, Tq k → k < w.heap.size ∧ own k = 0) (hok : StpW o) (hel : es.length ≤ 1300000000000) :
    Calls Tryz.prog 14 #[.pointer (some ⟨B, 0, none⟩), v] w fun r w' => r = .returned (.bool true) ∧ ∃ own' psv' es' xs', Rig w' own' B w.heap.size psv' nb ni ne nl nt es' xs' xs' ∧ es'.length ≤ es.length + 1 ∧ (∀ x ∈ xs', x ∈ xs ∨ ExIn x 0) ∧ Below B w w' := by
  obtain ⟨t, rfl, ht⟩ := hv
  obtain ⟨kind, a, b, c, s, cfg⟩ := o
  obtain ⟨x1, x2, x3, x4, x5, ts⟩ := cfg
  obtain ⟨hs, hl, hl2⟩ := hok
  simp only at ht hs hl hl2 ⊢
  have HP := hide p
  have HT := hide ht
  obtain ⟨ta, tc, rfl⟩ := ht.slice
  have HL2 := hide hl2
  have HTQ := hide hTq
  have HCF : Hid (Cf w w.heap.size (.agg #[.int .i64 x1, .int .i64 x2, .int .i64 x3, .int .i64 x4, .int .i64 x5, .slice ta ts.length tc]) ⟨x1, x2, x3, x4, x5, ts⟩) := ⟨_, rfl, ht.tasks fun k e => (hTq k e).1⟩
  have hBw : B < w.heap.size := (p.lo B (by rw [p.bk.2.1]; decide)).2
  clear p ht hl2 hTq
  go_enter Tryz.func14, Tryz.ntmps14
  go_wp2_with fail
  have HB1 : Hid (Below w.heap.size w (w.alloc (.cells #[.int .i64 kind, .int .i64 a, .int .i64 b, .int .i64 c, .string s, .int .i64 x1, .int .i64 x2, .int .i64 x3, .int .i64 x4, .int .i64 x5, .slice ta ts.length tc] 43))) := (Below.refl _ _).alloc (Nat.le_refl _) _
  refine (lentConfig_any w.heap.size _ ⟨x1, x2, x3, x4, x5, ts⟩ _ (HCF.out.later HB1.out (by omega)) (by simp) hl HL2.out).mono ?_
  rintro e w1 ⟨T, lv, Ls, rfl, hla, hTl, q1⟩
  obtain ⟨lva, lvc, hlv⟩ := owns_slice hla.lims
  subst hlv
  have hzo : (w.alloc (.cells #[.int .i64 kind, .int .i64 a, .int .i64 b, .int .i64 c, .string s, .int .i64 x1, .int .i64 x2, .int .i64 x3, .int .i64 x4, .int .i64 x5, .slice ta ts.length tc] 43)).heap.size = w.heap.size + 1 := by simp
  rw [hzo] at hTl q1 hla
  have HO1 := hide ((Blk.new w #[.int .i64 kind, .int .i64 a, .int .i64 b, .int .i64 c, .string s, .int .i64 x1, .int .i64 x2, .int .i64 x3, .int .i64 x4, .int .i64 x5, .slice ta ts.length tc] 43).later q1 (by simp))
  have HBW1 : Hid (Below w.heap.size w w1) := HB1.out.trans (q1.mono (by omega))
  have hz1 := q1.size
  have HLA1 := hide hla
  have hTw := hla.row.lt
  have HLs : Hid (∀ L ∈ Ls, T < L ∧ L < w1.heap.size) := hla.lt
  clear hla q1
  simp only [] at *
  have HB2 : Hid (Below w1.heap.size w1 ((w1.alloc (.cells #[.int .i64 x1, .int .i64 x2, .int .i64 x3, .int .i64 x4, .int .i64 x5, .slice (some ⟨T, 0, none⟩) ts.length (ts.length + 8)] 40)).alloc (.cells #[.slice (some ⟨T, 0, none⟩) (ts.length + 8) (ts.length + 8), .slice lva Ls.length lvc] 71))) := ((Below.refl _ _).alloc (Nat.le_refl _) _).alloc (by simp) _
  have hz2 : ((w1.alloc (.cells #[.int .i64 x1, .int .i64 x2, .int .i64 x3, .int .i64 x4, .int .i64 x5, .slice (some ⟨T, 0, none⟩) ts.length (ts.length + 8)] 40)).alloc (.cells #[.slice (some ⟨T, 0, none⟩) (ts.length + 8) (ts.length + 8), .slice lva Ls.length lvc] 71)).heap.size = w1.heap.size + 2 := by simp
  have HLA2 := hide (HLA1.out.below HB2.out)
  have HCFL : Hid (Cf ((w1.alloc (.cells #[.int .i64 x1, .int .i64 x2, .int .i64 x3, .int .i64 x4, .int .i64 x5, .slice (some ⟨T, 0, none⟩) ts.length (ts.length + 8)] 40)).alloc (.cells #[.slice (some ⟨T, 0, none⟩) (ts.length + 8) (ts.length + 8), .slice lva Ls.length lvc] 71)) ((w1.alloc (.cells #[.int .i64 x1, .int .i64 x2, .int .i64 x3, .int .i64 x4, .int .i64 x5, .slice (some ⟨T, 0, none⟩) ts.length (ts.length + 8)] 40)).alloc (.cells #[.slice (some ⟨T, 0, none⟩) (ts.length + 8) (ts.length + 8), .slice lva Ls.length lvc] 71)).heap.size (.agg #[.int .i64 x1, .int .i64 x2, .int .i64 x3, .int .i64 x4, .int .i64 x5, .slice (some ⟨T, 0, none⟩) ts.length (ts.length + 8)]) ⟨x1, x2, x3, x4, x5, ts⟩) := ⟨_, rfl, HLA2.out.tasks⟩
  have HO2 := hide (HO1.out.later HB2.out (by omega))
  have HLB : Hid (Blk ((w1.alloc (.cells #[.int .i64 x1, .int .i64 x2, .int .i64 x3, .int .i64 x4, .int .i64 x5, .slice (some ⟨T, 0, none⟩) ts.length (ts.length + 8)] 40)).alloc (.cells #[.slice (some ⟨T, 0, none⟩) (ts.length + 8) (ts.length + 8), .slice lva Ls.length lvc] 71)) (w1.heap.size + 1) #[.slice (some ⟨T, 0, none⟩) (ts.length + 8) (ts.length + 8), .slice lva Ls.length lvc] 71) := by
    have := Blk.new (w1.alloc (.cells #[.int .i64 x1, .int .i64 x2, .int .i64 x3, .int .i64 x4, .int .i64 x5, .slice (some ⟨T, 0, none⟩) ts.length (ts.length + 8)] 40)) #[.slice (some ⟨T, 0, none⟩) (ts.length + 8) (ts.length + 8), .slice lva Ls.length lvc] 71
    simpa [Hid] using this
  go_wp2_with fail
  generalize hW3 : ((w1.alloc (.cells #[.int .i64 x1, .int .i64 x2, .int .i64 x3, .int .i64 x4, .int .i64 x5, .slice (some ⟨T, 0, none⟩) ts.length (ts.length + 8)] 40)).alloc (.cells #[.slice (some ⟨T, 0, none⟩) (ts.length + 8) (ts.length + 8), .slice lva Ls.length lvc] 71)) = W3 at *
  clear hW3
  by_cases hok : cfgOk ⟨x1, x2, x3, x4, x5, ts⟩ = true
  · refine (new_yes _ _ ⟨x1, x2, x3, x4, x5, ts⟩ W3 HCFL.out (Nat.le_refl _) hok).mono ?_
    rintro e w4 ⟨X, rfl, xc4, q4⟩
    have HX4 := hide xc4
    have HO4 := hide (HO2.out.later q4 (by omega))
    have HLB4 := hide (HLB.out.later q4 (by omega))
    have HLA4 := hide (HLA2.out.below q4)
    have HBW4 : Hid (Below w.heap.size w w4) := (HBW1.out.trans (HB2.out.mono (by omega))).trans (q4.mono (by omega))
    have hz4 := q4.size
    have hz3 : w1.heap.size + 2 = W3.heap.size := hz2.symm
    have HZ3 := hide hz3
    have m0 : w4.cell? ⟨w1.heap.size + 1, 0, none⟩ = some (.slice (some ⟨T, 0, none⟩) (ts.length + 8) (ts.length + 8)) := HLB4.out.cell 0
    have m1 : w4.cell? ⟨w1.heap.size + 1, 1, none⟩ = some (.slice lva Ls.length lvc) := HLB4.out.cell 1
    have k5 : w4.cell? ⟨w.heap.size, 5, none⟩ = some (.int .i64 x1) := HO4.out.cell 5
    have k6 : w4.cell? ⟨w.heap.size, 6, none⟩ = some (.int .i64 x2) := HO4.out.cell 6
    have k7 : w4.cell? ⟨w.heap.size, 7, none⟩ = some (.int .i64 x3) := HO4.out.cell 7
    have k8 : w4.cell? ⟨w.heap.size, 8, none⟩ = some (.int .i64 x4) := HO4.out.cell 8
    have k9 : w4.cell? ⟨w.heap.size, 9, none⟩ = some (.int .i64 x5) := HO4.out.cell 9
    have k10 : w4.cell? ⟨w.heap.size, 10, none⟩ = some (.slice ta ts.length tc) := HO4.out.cell 10
    have hlo4 := HO4.out.lt
    have hll4 := HLB4.out.lt
    clear q4 xc4 hz2 hz3
    go_wp2_with fail
    refine (backConfig_true w.heap.size (w.heap.size + 1) T (.agg #[.int .i64 x1, .int .i64 x2, .int .i64 x3, .int .i64 x4, .int .i64 x5, .slice ta ts.length tc]) (.slice lva Ls.length lvc) ⟨x1, x2, x3, x4, x5, ts⟩ Ls w4 (HCF.out.later HBW4.out (by omega)) (by omega) (by omega) HLA4.out hl HL2.out).mono ?_
    rintro e w5 ⟨rfl, hf5⟩
    have HF5 := hide hf5
    have hz5 := hf5.size
    have hz3' := HZ3.out
    have HBW5 : Hid (Below w.heap.size w w5) := HBW4.out.trans (hf5.below (by omega) (by rintro k (rfl | hk); omega; have := (HLs.out k hk).1; omega))
    have HO5 : Hid (Blk w5 w.heap.size #[.int .i64 kind, .int .i64 a, .int .i64 b, .int .i64 c, .string s, .int .i64 x1, .int .i64 x2, .int .i64 x3, .int .i64 x4, .int .i64 x5, .slice ta ts.length tc] 43) := (hf5.block _ (by omega) (by rintro (h | h); omega; have := (HLs.out _ h).1; omega)).trans HO4.out
    have HX5 : Hid (Xec w5 (fun k => W3.heap.size ≤ k ∧ k < w4.heap.size) W3.heap.size X (exNew ⟨x1, x2, x3, x4, x5, ts⟩)) := (HX4.out.mono fun k hk e => ⟨e, hk⟩).same fun k e => hf5.block k e.2 (by rintro (h | h); omega; have := (HLs.out k h).2; omega)
    have n5 : w5.cell? ⟨w.heap.size, 5, none⟩ = some (.int .i64 x1) := HO5.out.cell 5
    have n6 : w5.cell? ⟨w.heap.size, 6, none⟩ = some (.int .i64 x2) := HO5.out.cell 6
    have n7 : w5.cell? ⟨w.heap.size, 7, none⟩ = some (.int .i64 x3) := HO5.out.cell 7
    have n8 : w5.cell? ⟨w.heap.size, 8, none⟩ = some (.int .i64 x4) := HO5.out.cell 8
    have n9 : w5.cell? ⟨w.heap.size, 9, none⟩ = some (.int .i64 x5) := HO5.out.cell 9
    have n10 : w5.cell? ⟨w.heap.size, 10, none⟩ = some (.slice ta ts.length tc) := HO5.out.cell 10
    have hlo5 := HO5.out.lt
    clear hf5 m0 m1 k5 k6 k7 k8 k9 k10 hz3'
    go_wp2_with fail
    refine (rNew_yes (.slice ta ts.length tc) Tq ⟨x1, x2, x3, x4, x5, ts⟩ w5 (HT.out.same fun k e => HBW5.out.block k (HTQ.out k e).1) (fun k e => by have := (HTQ.out k e).1; have := HBW5.out.size; omega) hok).mono ?_
    rintro e w6 ⟨Y, rfl, rc6, q6⟩
    have hz6 := q6.size
    have HBW6 : Hid (Below w.heap.size w w6) := HBW5.out.trans (q6.mono (by omega))
    have HP6 := hide (HP.out.below HBW6.out)
    have HX6 : Hid (Xec w6 (fun k => W3.heap.size ≤ k ∧ k < w4.heap.size) W3.heap.size X (exNew ⟨x1, x2, x3, x4, x5, ts⟩)) := HX5.out.same fun k e => q6.block k (by omega)
    have HY6 : Hid (Rec w6 (fun k => w5.heap.size ≤ k ∧ k < w6.heap.size) Tq w5.heap.size Y (exNew ⟨x1, x2, x3, x4, x5, ts⟩)) := rc6.mono (fun k hk e => ⟨e, hk⟩) fun k e e' => by have := (HTQ.out k e).1; have := HBW5.out.size; omega
    obtain ⟨pa, pc, hpv⟩ := ownsRow_slice HP6.out.row
    have hb7 : Below w6.heap.size w6 (w6.alloc (.cells #[.pointer (some ⟨X, 0, none⟩), .pointer (some ⟨Y, 0, none⟩)] 49)) := (Below.refl _ _).alloc (Nat.le_refl _) _
    have HP7 := hide (HP6.out.below hb7)
    have HROW : Hid ((w6.alloc (.cells #[.pointer (some ⟨X, 0, none⟩), .pointer (some ⟨Y, 0, none⟩)] 49)).ownsRow B 49 2 (.slice pa es.length pc) es.length (prow es)) := by
      rw [Hid, ← hpv]
      exact HP7.out.row
    have HWN := hide (win_new w6 0 49 2 1 [.pointer (some ⟨X, 0, none⟩), .pointer (some ⟨Y, 0, none⟩)] rfl (by unfold maxLen; omega) (Nat.zero_le _))
    have HONE : Hid (∀ u ∈ [Value.pointer (some ⟨X, 0, none⟩), Value.pointer (some ⟨Y, 0, none⟩)], u.oneCell' = true) := by
      intro u hu
      simp at hu
      rcases hu with rfl | rfl <;> rfl
    have hB6 : B < w6.heap.size := by have := HBW6.out.size; omega
    have HBB : Hid (∃ cs, Blk w6 B cs 36 ∧ cs[0]? = some (.slice pa es.length pc)) := by
      obtain ⟨_, _, vb, vi, ve, vl, vt, hb, _⟩ := HP6.out.bk
      exact ⟨_, hb, by rw [hpv]; rfl⟩
    obtain ⟨cs, hbb, hcs0⟩ := HBB.out
    have b0 : w6.cell? ⟨B, 0, none⟩ = some (.slice pa es.length pc) := (hbb.cell 0).trans hcs0
    have HBW : Hid (Blk (w6.alloc (.cells #[.pointer (some ⟨X, 0, none⟩), .pointer (some ⟨Y, 0, none⟩)] 49)) B cs 36) := hbb.alloc _
    have HNB : Hid (Value.ownBlock (.slice pa es.length pc) ≠ some B) := ownsRow_ne_blk HROW.out HBW.out (by decide)
    have HCS := hide hcs0
    have HB7 := hide hb7
    clear rc6 q6 n5 n6 n7 n8 n9 n10 hbb hcs0 hb7
    go_wp2_with (at_builtin; go_must (refine wpList_appFar rfl _ _ 27 49 (.agg #[.pointer none, .pointer none]) 2 16 rfl Tryz.underlying27 info_pair rfl (by decide) (by decide) B 0 (.slice pa es.length pc) (.slice (some ⟨w6.heap.size, 0, none⟩) 1 1) es.length 1 (prow es) [.pointer (some ⟨X, 0, none⟩), .pointer (some ⟨Y, 0, none⟩)] rfl HROW.out rfl HWN.out HONE.out (by omega) (by first | omega | (simp; omega)) ?_))
    intro v8 w8 e8 g8 o8
    obtain ⟨va8, vc8, hv8⟩ := ownsRow_slice e8
    have hz7 : (w6.alloc (.cells #[.pointer (some ⟨X, 0, none⟩), .pointer (some ⟨Y, 0, none⟩)] 49)).heap.size = w6.heap.size + 1 := by simp
    have hg8 := g8.size
    have hf8 : Fr (fun k => psv.ownBlock = some k) w w8 := ((Fr.of_below HBW6.out).trans (Fr.of_below (X := fun k => psv.ownBlock = some k) HB7.out) fun _ _ e => e).trans (Fr.of_grown (X := fun k => psv.ownBlock = some k) g8 fun k e _ => by rw [hpv]; exact e) fun _ _ e => e
    have hpl : ∀ k, psv.ownBlock = some k → k < w.heap.size := fun k e => (HP.out.lo k (by rw [HP.out.ro k e]; decide)).2
    have hkk : ∀ k, w.heap.size ≤ k → k < w6.heap.size → w8.heap[k]? = w6.heap[k]? := fun k h1 h2 => by
      rw [g8.block k (by omega) (fun e => by have := hpl k (by rw [hpv]; exact e.symm); omega)]
      exact HB7.out.block k h2
    have hk1 : ∀ k, k < w.heap.size → own k = 0 → w8.heap[k]? = w6.heap[k]? := fun k h1 h2 => by
      rw [g8.block k (by omega) (fun e => by
        have := HP.out.ro k (by rw [hpv]; exact e.symm)
        rw [h2] at this; omega)]
      exact HB7.out.block k (by omega)
    have hzw : w.heap.size ≤ W3.heap.size := by have := HBW1.out.size; have := HB2.out.size; omega
    obtain ⟨own', hrig⟩ := HP.out.more (v8 := v8) hB (a := W3.heap.size) (b := w4.heap.size) (c := w5.heap.size) (d := w6.heap.size) ⟨hzw, by omega, by omega, by omega, by omega⟩ hf8 (HX6.out.same fun k e => hkk k (by omega) (by omega)) HTQ.out (HY6.out.same (fun k e => by
      rcases e with e | e
      · exact hkk k (by omega) e.2
      · exact hk1 k (HTQ.out k e).1 (HTQ.out k e).2) (by omega)) (by rw [prow_append]; exact e8) (by
      rcases o8 with o8 | o8
      · exact .inl (by rw [o8, hpv])
      · exact .inr ⟨_, o8, by omega⟩)
    have HRIG := hide hrig
    have hbb8 : Blk w8 B cs 36 := (g8.block B (by omega) (fun e => HNB.out e.symm)).trans HBW.out
    have d0 : w8.cell? ⟨B, 0, none⟩ = some (.slice pa es.length pc) := (hbb8.cell 0).trans HCS.out
    have d0f := hbb8.free 0
    have hB8 : B < w8.heap.size := by omega
    have HF8 := hide hf8
    have HPL := hide hpl
    have HROB : Hid (∀ k, psv.ownBlock = some k → B ≤ k) := fun k e => (HP.out.lo k (by rw [HP.out.ro k e]; decide)).1
    clear e8 g8 o8 hf8 hrig hbb8 hkk hk1 hpl hpv
    subst hv8
    go_wp2_with fail
    go_ret
    exact ⟨rfl, own', _, es ++ [(X, Y)], xs ++ [exNew ⟨x1, x2, x3, x4, x5, ts⟩], HRIG.out, by simp, fun x hx => (List.mem_append.1 hx).imp id fun hx => by
      simp only [List.mem_cons, List.not_mem_nil, or_false] at hx
      subst hx
      exact exNew_in hok, (HF8.out.below hB HROB.out).setCell (Nat.le_refl _) _⟩
  · have hok : cfgOk ⟨x1, x2, x3, x4, x5, ts⟩ = false := by simpa using hok
    refine (new_no _ _ ⟨x1, x2, x3, x4, x5, ts⟩ W3 HCFL.out (Nat.le_refl _) hok).mono ?_
    rintro e w4 ⟨rfl, q4⟩
    have HO4 := hide (HO2.out.later q4 (by omega))
    have HLB4 := hide (HLB.out.later q4 (by omega))
    have HLA4 := hide (HLA2.out.below q4)
    have HBW4 : Hid (Below w.heap.size w w4) := (HBW1.out.trans (HB2.out.mono (by omega))).trans (q4.mono (by omega))
    have hz4 := q4.size
    have hz3 : w1.heap.size + 2 = W3.heap.size := hz2.symm
    have HZ3 := hide hz3
    have m0 : w4.cell? ⟨w1.heap.size + 1, 0, none⟩ = some (.slice (some ⟨T, 0, none⟩) (ts.length + 8) (ts.length + 8)) := HLB4.out.cell 0
    have m1 : w4.cell? ⟨w1.heap.size + 1, 1, none⟩ = some (.slice lva Ls.length lvc) := HLB4.out.cell 1
    have k5 : w4.cell? ⟨w.heap.size, 5, none⟩ = some (.int .i64 x1) := HO4.out.cell 5
    have k6 : w4.cell? ⟨w.heap.size, 6, none⟩ = some (.int .i64 x2) := HO4.out.cell 6
    have k7 : w4.cell? ⟨w.heap.size, 7, none⟩ = some (.int .i64 x3) := HO4.out.cell 7
    have k8 : w4.cell? ⟨w.heap.size, 8, none⟩ = some (.int .i64 x4) := HO4.out.cell 8
    have k9 : w4.cell? ⟨w.heap.size, 9, none⟩ = some (.int .i64 x5) := HO4.out.cell 9
    have k10 : w4.cell? ⟨w.heap.size, 10, none⟩ = some (.slice ta ts.length tc) := HO4.out.cell 10
    have hlo4 := HO4.out.lt
    have hll4 := HLB4.out.lt
    clear q4 hz2 hz3
    go_wp2_with fail
    refine (backConfig_true w.heap.size (w.heap.size + 1) T (.agg #[.int .i64 x1, .int .i64 x2, .int .i64 x3, .int .i64 x4, .int .i64 x5, .slice ta ts.length tc]) (.slice lva Ls.length lvc) ⟨x1, x2, x3, x4, x5, ts⟩ Ls w4 (HCF.out.later HBW4.out (by omega)) (by omega) (by omega) HLA4.out hl HL2.out).mono ?_
    rintro e w5 ⟨rfl, hf5⟩
    have HF5 := hide hf5
    have hz5 := hf5.size
    have hz3' := HZ3.out
    have HBW5 : Hid (Below w.heap.size w w5) := HBW4.out.trans (hf5.below (by omega) (by rintro k (rfl | hk); omega; have := (HLs.out k hk).1; omega))
    have HO5 : Hid (Blk w5 w.heap.size #[.int .i64 kind, .int .i64 a, .int .i64 b, .int .i64 c, .string s, .int .i64 x1, .int .i64 x2, .int .i64 x3, .int .i64 x4, .int .i64 x5, .slice ta ts.length tc] 43) := (hf5.block _ (by omega) (by rintro (h | h); omega; have := (HLs.out _ h).1; omega)).trans HO4.out
    have n5 : w5.cell? ⟨w.heap.size, 5, none⟩ = some (.int .i64 x1) := HO5.out.cell 5
    have n6 : w5.cell? ⟨w.heap.size, 6, none⟩ = some (.int .i64 x2) := HO5.out.cell 6
    have n7 : w5.cell? ⟨w.heap.size, 7, none⟩ = some (.int .i64 x3) := HO5.out.cell 7
    have n8 : w5.cell? ⟨w.heap.size, 8, none⟩ = some (.int .i64 x4) := HO5.out.cell 8
    have n9 : w5.cell? ⟨w.heap.size, 9, none⟩ = some (.int .i64 x5) := HO5.out.cell 9
    have n10 : w5.cell? ⟨w.heap.size, 10, none⟩ = some (.slice ta ts.length tc) := HO5.out.cell 10
    have hlo5 := HO5.out.lt
    clear hf5 m0 m1 k5 k6 k7 k8 k9 k10 hz3'
    go_wp2_with fail
    refine (rNew_no (.slice ta ts.length tc) w.heap.size ⟨x1, x2, x3, x4, x5, ts⟩ w5 ((HT.out.tasks fun k e => (HTQ.out k e).1).later HBW5.out (Nat.le_refl _)) HBW5.out.size hok).mono ?_
    rintro e w6 ⟨rfl, q6⟩
    have hz6 := q6.size
    have HBW6 : Hid (Below w.heap.size w w6) := HBW5.out.trans (q6.mono (by omega))
    clear q6 n5 n6 n7 n8 n9 n10
    go_wp2_with fail
    go_ret
    exact ⟨rfl, own, psv, es, xs, (HP.out.below HBW6.out).raise HP.out.qs HBW6.out.size, by omega, fun x hx => .inl hx, HBW6.out.mono hB⟩

end Go.Proofs.YthloffgebebijaaGreat

/- PlayB: the walk of tillerlaw's plays, over any contract of its step that says where the configuration lies. -/
namespace Go.Proofs.YthloffgebebijaaGreat
open Go.RowKit

set_option maxRecDepth 100000 in
set_option maxHeartbeats 400000 in
theorem example_q (w : World) :
    Calls Tryz.prog 9 #[] w fun e w' => ∃ a c, e = .returned (.agg #[.int .i64 1, .int .i64 2, .int .i64 2, .int .i64 1, .int .i64 1, .slice a 1 c]) ∧ TasksQ w' (fun k => w.heap.size ≤ k ∧ k < w'.heap.size) (.slice a 1 c) exCfg.tasks ∧ Below w.heap.size w w' := by
  go_enter Tryz.func9, Tryz.ntmps9
  repeat (first | go_values | go_skip | go_guarded | go_step | go_upon)
  have B1 : Blk (((w.alloc (.cells #[.int .i64 1, .int .i64 2, .int .i64 2, .int .i64 1, .int .i64 1, .slice (some ⟨w.heap.size + 1 + 1, 0, none⟩) 1 1] 40)).alloc (.cells #[.int .i64 20, .int .i64 1] 52)).alloc (.cells #[.int .i64 5, .int .i64 30, .slice (some ⟨w.heap.size + 1, 0, none⟩) 1 1] 55)) w.heap.size #[.int .i64 1, .int .i64 2, .int .i64 2, .int .i64 1, .int .i64 1, .slice (some ⟨w.heap.size + 1 + 1, 0, none⟩) 1 1] 40 := ((Blk.new w #[.int .i64 1, .int .i64 2, .int .i64 2, .int .i64 1, .int .i64 1, .slice (some ⟨w.heap.size + 1 + 1, 0, none⟩) 1 1] 40).alloc _).alloc _
  have B2 : Blk (((w.alloc (.cells #[.int .i64 1, .int .i64 2, .int .i64 2, .int .i64 1, .int .i64 1, .slice (some ⟨w.heap.size + 1 + 1, 0, none⟩) 1 1] 40)).alloc (.cells #[.int .i64 20, .int .i64 1] 52)).alloc (.cells #[.int .i64 5, .int .i64 30, .slice (some ⟨w.heap.size + 1, 0, none⟩) 1 1] 55)) (w.heap.size + 1) #[.int .i64 20, .int .i64 1] 52 := by
    have := (Blk.new (w.alloc (.cells #[.int .i64 1, .int .i64 2, .int .i64 2, .int .i64 1, .int .i64 1, .slice (some ⟨w.heap.size + 1 + 1, 0, none⟩) 1 1] 40)) #[.int .i64 20, .int .i64 1] 52).alloc (.cells #[.int .i64 5, .int .i64 30, .slice (some ⟨w.heap.size + 1, 0, none⟩) 1 1] 55)
    simpa using this
  have B3 : Blk (((w.alloc (.cells #[.int .i64 1, .int .i64 2, .int .i64 2, .int .i64 1, .int .i64 1, .slice (some ⟨w.heap.size + 1 + 1, 0, none⟩) 1 1] 40)).alloc (.cells #[.int .i64 20, .int .i64 1] 52)).alloc (.cells #[.int .i64 5, .int .i64 30, .slice (some ⟨w.heap.size + 1, 0, none⟩) 1 1] 55)) (w.heap.size + 1 + 1) #[.int .i64 5, .int .i64 30, .slice (some ⟨w.heap.size + 1, 0, none⟩) 1 1] 55 := by
    have := Blk.new ((w.alloc (.cells #[.int .i64 1, .int .i64 2, .int .i64 2, .int .i64 1, .int .i64 1, .slice (some ⟨w.heap.size + 1 + 1, 0, none⟩) 1 1] 40)).alloc (.cells #[.int .i64 20, .int .i64 1] 52)) #[.int .i64 5, .int .i64 30, .slice (some ⟨w.heap.size + 1, 0, none⟩) 1 1] 55
    simpa using this
  have hb : Below w.heap.size w (((w.alloc (.cells #[.int .i64 1, .int .i64 2, .int .i64 2, .int .i64 1, .int .i64 1, .slice (some ⟨w.heap.size + 1 + 1, 0, none⟩) 1 1] 40)).alloc (.cells #[.int .i64 20, .int .i64 1] 52)).alloc (.cells #[.int .i64 5, .int .i64 30, .slice (some ⟨w.heap.size + 1, 0, none⟩) 1 1] 55)) := (((Below.refl _ _).alloc (Nat.le_refl _) _).alloc (by simp) _).alloc (by simp; omega) _
  have h0 := B1.cell 0
  have h1 := B1.cell 1
  have h2 := B1.cell 2
  have h3 := B1.cell 3
  have h4 := B1.cell 4
  have h5 := B1.cell 5
  simp at h0 h1 h2 h3 h4 h5
  refine bodyPost_ret (v := .agg #[.int .i64 1, .int .i64 2, .int .i64 2, .int .i64 1, .int .i64 1, .slice (some ⟨w.heap.size + 1 + 1, 0, none⟩) 1 1]) (by simp [results, Tryz.results9, go_sem]) rfl ⟨_, _, rfl, ⟨_, _, rfl, .inr ⟨w.heap.size + 1 + 1, 0, rfl, ⟨by omega, B3.lt⟩, fun i t hi => ?_⟩⟩, hb⟩
  match i, hi with
  | 0, hi =>
    simp [exCfg] at hi
    subst hi
    refine ⟨B3.cell 0, B3.cell 1, _, B3.cell 2, _, _, rfl, .inr ⟨w.heap.size + 1, 0, rfl, ⟨by omega, B2.lt⟩, fun j l hj => ?_⟩⟩
    match j, hj with
    | 0, hj =>
      simp at hj
      subst hj
      exact ⟨B2.cell 0, B2.cell 1⟩
    | j + 1, hj => simp at hj
  | i + 1, hi => simp [exCfg] at hi

def StpIn (o : Stp) : Prop := StpW o ∧ In64 o.a ∧ In64 o.b ∧ In64 o.c
theorem ex_in (k : Int) : StpIn ⟨k, 0, 0, 0, ⟨#[]⟩, exCfg⟩ := ⟨(ex_ok k).wide, show In64 0 from ⟨by decide, by decide⟩, show In64 0 from ⟨by decide, by decide⟩, show In64 0 from ⟨by decide, by decide⟩⟩
/-- What a step's contract says: St B w n: behind n steps; the world of the script lies in block B. -/
structure PlanQ (St : Nat → World → Nat → Prop) (ks : List Int) : Prop where
  init : ∀ w : World, St w.heap.size (w.alloc (.cells #[.slice none 0 0, .slice none 0 0, .slice none 0 0, .slice none 0 0, .slice none 0 0, .slice none 0 0] 36)) 0
  later : ∀ (B : Nat) (w w' : World) (n : Nat), St B w n → Below w.heap.size w w' → St B w' n
  step : ∀ (B : Nat) (w : World) (n : Nat) (v : Value) (o : Stp) (Tq : Nat → Prop), St B w n → n ≤ 1256584717422 → B ≤ w.heap.size → OpQ w Tq v o → (∀ k, Tq k → k < w.heap.size ∧ k ≠ B ∧ (k < B ∨ n = 0)) → StpIn o → o.kind ∈ ks → Calls Tryz.prog 8 #[.pointer (some ⟨B, 0, none⟩), v] w fun e w' => e = .returned (.bool true) ∧ St B w' (n + 1) ∧ Below B w w'
  looks : ∀ (B : Nat) (w : World) (n : Nat), St B w n → n ≤ 1256584717423 → Calls Tryz.prog 10 #[.pointer (some ⟨B, 1, none⟩)] w fun e w' => e = .returned (.bool true) ∧ Below w.heap.size w w'

set_option maxRecDepth 100000 in
set_option maxHeartbeats 3200000 in
theorem playsQ_true {St : Nat → World → Nat → Prop} {ks : List Int} (P : PlanQ St ks) (B0 : Nat) (sv kv : Value) (os : List Stp) (w : World) (hs : Script w B0 sv os) (hk : Kinds w w.heap.size kv ks) (hks : ks ≠ []) (hkl : ks.length ≤ 100) (hB : B0 ≤ w.heap.size) (hn : os.length ≤ 1256584717421) (hok : ∀ o ∈ os, StpIn o) :
    Calls Tryz.prog 7 #[sv, kv] w fun e w' => e = .returned (.bool true) ∧ Below w.heap.size w w' := by
  obtain ⟨sa, sc, rfl, hs⟩ := hs
  obtain ⟨kb, kc, rfl, hkb, hkc⟩ := hk
  have HSC := hide hs
  have HKC := hide hkc
  have HOK := hide hok
  have HP := hide P
  generalize hN : os.length = n at *
  have HN := hide hN
  generalize hM : ks.length = m at *
  have HM := hide hM
  have hm0 : 0 < m := by
    have : ks.length ≠ 0 := by simpa using hks
    omega
  obtain ⟨k0, hk0⟩ := get_of_lt (l := ks) (k := 0) (by omega)
  have HK0 := hide hk0
  have kc0 : w.cell? ⟨kb, 0, none⟩ = some (.int .i64 k0) := hkc 0 k0 hk0
  clear hN hM hs hkc hok hks hk0 P
  have HB1 : Hid (Below w.heap.size w (w.alloc (.cells #[.slice none 0 0, .slice none 0 0, .slice none 0 0, .slice none 0 0, .slice none 0 0, .slice none 0 0] 36))) := (Below.refl _ _).alloc (Nat.le_refl _) _
  go_enter Tryz.func7, Tryz.ntmps7
  go_wp2_with fail
  have HEX := hide (example_q (w.alloc (.cells #[.slice none 0 0, .slice none 0 0, .slice none 0 0, .slice none 0 0, .slice none 0 0, .slice none 0 0] 36)).drew)
  have HST0 := hide (HP.out.init w)
  have hz1 : (w.alloc (.cells #[.slice none 0 0, .slice none 0 0, .slice none 0 0, .slice none 0 0, .slice none 0 0, .slice none 0 0] 36)).heap.size = w.heap.size + 1 := by simp
  have kc1 : (w.alloc (.cells #[.slice none 0 0, .slice none 0 0, .slice none 0 0, .slice none 0 0, .slice none 0 0, .slice none 0 0] 36)).cell? ⟨kb, 0, none⟩ = some (.int .i64 k0) := (HB1.out.cell (p := ⟨kb, 0, none⟩) (by simpa using hkb)).trans kc0
  generalize hW1 : w.alloc (.cells #[.slice none 0 0, .slice none 0 0, .slice none 0 0, .slice none 0 0, .slice none 0 0, .slice none 0 0] 36) = w1 at *
  clear hW1
  have HSTEP : Hid (∀ (w2 : World) (ea : Option Addr) (ec : Nat), TasksQ w2 (fun k => w1.heap.size ≤ k ∧ k < w2.heap.size) (.slice ea 1 ec) exCfg.tasks → Below w1.heap.size w1 w2 → Calls Tryz.prog 8 #[.pointer (some ⟨w.heap.size, 0, none⟩), .agg #[.int .i64 k0, .int .i64 0, .int .i64 0, .int .i64 0, .string ⟨#[]⟩, .int .i64 1, .int .i64 2, .int .i64 2, .int .i64 1, .int .i64 1, .slice ea 1 ec]] w2 fun e w' => e = .returned (.bool true) ∧ St w.heap.size w' 1 ∧ Below w.heap.size w2 w') := fun w2 ea ec ht hq =>
    HP.out.step w.heap.size w2 0 _ ⟨k0, 0, 0, 0, ⟨#[]⟩, exCfg⟩ (fun k => w1.heap.size ≤ k ∧ k < w2.heap.size) (HP.out.later _ _ _ _ HST0.out hq) (by omega) (by have := hq.size; omega) ⟨_, rfl, ht⟩ (fun k e => ⟨e.2, by omega, .inr rfl⟩) (ex_in k0) (List.mem_of_getElem? HK0.out)
  apply wp_some3 (fun (ea : Option Addr) (ec : Nat) (w3 : World) => St w.heap.size w3 1 ∧ Below w.heap.size w w3)
  case h =>
    go_region_with (first
      | (go_at_call 9; refine HEX.out.mono ?_; rintro e w2 ⟨ea, ec, rfl, ht, q2⟩; have HT2 := hide ht; have HQ2 := hide q2; have kc2 : w2.cell? ⟨kb, 0, none⟩ = some (.int .i64 k0) := (q2.cell (p := ⟨kb, 0, none⟩) (by simp; omega)).trans kc1; have hz2 := q2.size; clear ht q2)
      | (go_at_call 8; refine (HSTEP.out w2 ea ec HT2.out (undrew HQ2.out)).mono ?_; rintro e w3 ⟨rfl, hst, q3⟩; have HST3 := hide hst; have HQ3 := hide q3; clear hst q3))
    all_goals exact ⟨ea, ec, w3, ⟨HST3.out, (HB1.out.trans ((undrew HQ2.out).mono (by omega))).trans HQ3.out⟩, rfl, rfl⟩
  rintro ea ec w3 ⟨st3, q3⟩
  have HST3 := hide st3
  have HQ3 := hide q3
  clear st3 q3 kc0 kc1
  go_wp2_with fail
  go_loopw [7] (fun i wr => ∃ (k cnt : Nat), i = .int .i64 k ∧ k ≤ n ∧ cnt ≤ k + 1 ∧ St w.heap.size wr cnt ∧ Below w.heap.size w wr) (fun i _ => n - (intOf i).toNat)
  case atStart => exact ⟨0, 1, rfl, Nat.zero_le _, Nat.le_refl _, HST3.out, HQ3.out⟩
  case round =>
    obtain ⟨k, cnt, rfl, hk, hcnt, hst, hbe⟩ := hrel
    have HST := hide hst
    have HBE := hide hbe
    have hsz := hbe.size
    clear hst hbe
    by_cases hlt : k < n
    · obtain ⟨o, ho⟩ := get_of_lt (l := os) (k := k) (by rw [HN.out]; exact hlt)
      rcases HSC.out with he | ⟨sb, so, rfl, hsb, hsc⟩
      · rw [he] at ho; simp at ho
      obtain ⟨p0, p1, p2, p3, p4, p5, p6, p7, p8, p9, t, p10, ht⟩ := (hsc k _ ho).later HBE.out hB (by omega)
      have HT := hide ht
      have HOKo := hide (HOK.out o (List.mem_of_getElem? ho))
      obtain ⟨ta, tc, hte⟩ := ht.slice
      subst hte
      clear ht ho hsc
      obtain ⟨W0, hW0⟩ : ∃ W, W = wr := ⟨_, rfl⟩
      subst hW0
      go_wp2_with fail
      go_loopw [8, 9] (fun inn j wr => ∃ q : Nat, inn = .bool ((ks.take q).contains o.kind) ∧ j = .int .i64 q ∧ q ≤ m ∧ Below W0.heap.size W0 wr) (fun _ j _ => m - (intOf j).toNat)
      case atStart => exact ⟨0, by simp, rfl, Nat.zero_le _, Below.refl _ _⟩
      case round =>
        obtain ⟨q, rfl, rfl, hq, hbi⟩ := hrel
        have HQI := hide hbi
        have hszi := hbi.size
        clear hbi
        by_cases hqm : q < m
        · obtain ⟨y, hy⟩ := get_of_lt (l := ks) (k := q) (by rw [HM.out]; exact hqm)
          have kq : wr.cell? ⟨kb, q, none⟩ = some (.int .i64 y) := (HQI.out.cell (p := ⟨kb, q, none⟩) (by simp; omega)).trans ((HBE.out.cell (p := ⟨kb, q, none⟩) (by simpa using hkb)).trans (HKC.out q y hy))
          have o0 : wr.cell? ⟨sb, so + k * 11, none⟩ = some (.int .i64 o.kind) := (HQI.out.cell (p := ⟨sb, so + k * 11, none⟩) (by simp; omega)).trans p0
          have HTK := hide (take_snoc hy)
          have hqi : (q : Int) < (m : Int) := by omega
          clear hy
          cases hc : (ks.take q).contains o.kind with
          | true =>
            have HC := hide hc
            clear hc
            go_wp2_with fail
            go_quiet ((fail))
            go_wp2
            go_roundw
            case rel =>
              refine ⟨q + 1, ?_, by go_num, by omega, ⟨HQI.out.os, HQI.out.tape, HQI.out.output, HQI.out.size, HQI.out.block⟩⟩
              have h1 := HC.out
              rw [HTK.out]
              simp only [List.contains_eq_mem, List.mem_append, decide_eq_true_eq] at h1 ⊢
              simp [h1]
            case measure => simp [intOf]; omega
          | false =>
            have HC := hide hc
            clear hc
            by_cases hxy : o.kind = y
            · have hxe : (o.kind == y) = true := by simp [hxy]
              go_wp2_with fail
              go_quiet ((fail))
              go_wp2
              go_roundw
              case rel =>
                refine ⟨q + 1, ?_, by go_num, by omega, ⟨HQI.out.os, HQI.out.tape, HQI.out.output, HQI.out.size, HQI.out.block⟩⟩
                rw [HTK.out]
                simp [hxy]
              case measure => simp [intOf]; omega
            · have hxe : (o.kind == y) = false := by simp [hxy]
              go_wp2_with fail
              go_quiet ((fail))
              go_wp2
              go_roundw
              case rel =>
                refine ⟨q + 1, ?_, by go_num, by omega, ⟨HQI.out.os, HQI.out.tape, HQI.out.output, HQI.out.size, HQI.out.block⟩⟩
                have h1 := HC.out
                rw [HTK.out]
                simp only [List.contains_eq_mem, decide_eq_false_iff_not] at h1
                simp [h1, hxy]
              case measure => simp [intOf]; omega
        · have hqe : q = m := by omega
          have hqi : ¬ (q : Int) < (m : Int) := by omega
          rw [List.take_of_length_le (by rw [HM.out]; omega)]
          cases hc : ks.contains o.kind with
          | false =>
            clear hc
            have HSTL := hide (HP.out.later _ _ _ _ HST.out HQI.out)
            go_wp2
            go_roundw
            case rel => exact ⟨k + 1, cnt, by go_num, by omega, by omega, HSTL.out, HBE.out.trans (HQI.out.mono hsz)⟩
            case measure => simp [intOf]; omega
          | true =>
            have HMEM : Hid (o.kind ∈ ks) := by simpa [Hid] using hc
            have HSTL := hide (HP.out.later _ _ _ _ HST.out HQI.out)
            clear hc
            have o0 : wr.cell? ⟨sb, so + k * 11, none⟩ = some (.int .i64 o.kind) := (HQI.out.cell (p := ⟨sb, so + k * 11, none⟩) (by simp; omega)).trans p0
            have o1 : wr.cell? ⟨sb, so + k * 11 + 1, none⟩ = some (.int .i64 o.a) := (HQI.out.cell (p := ⟨sb, so + k * 11 + 1, none⟩) (by simp; omega)).trans p1
            have o2 : wr.cell? ⟨sb, so + k * 11 + 2, none⟩ = some (.int .i64 o.b) := (HQI.out.cell (p := ⟨sb, so + k * 11 + 2, none⟩) (by simp; omega)).trans p2
            have o3 : wr.cell? ⟨sb, so + k * 11 + 3, none⟩ = some (.int .i64 o.c) := (HQI.out.cell (p := ⟨sb, so + k * 11 + 3, none⟩) (by simp; omega)).trans p3
            have o4 : wr.cell? ⟨sb, so + k * 11 + 4, none⟩ = some (.string o.s) := (HQI.out.cell (p := ⟨sb, so + k * 11 + 4, none⟩) (by simp; omega)).trans p4
            have o5 : wr.cell? ⟨sb, so + k * 11 + 5, none⟩ = some (.int .i64 o.cfg.lines) := (HQI.out.cell (p := ⟨sb, so + k * 11 + 5, none⟩) (by simp; omega)).trans p5
            have o6 : wr.cell? ⟨sb, so + k * 11 + 6, none⟩ = some (.int .i64 o.cfg.room) := (HQI.out.cell (p := ⟨sb, so + k * 11 + 6, none⟩) (by simp; omega)).trans p6
            have o7 : wr.cell? ⟨sb, so + k * 11 + 7, none⟩ = some (.int .i64 o.cfg.poll) := (HQI.out.cell (p := ⟨sb, so + k * 11 + 7, none⟩) (by simp; omega)).trans p7
            have o8 : wr.cell? ⟨sb, so + k * 11 + 8, none⟩ = some (.int .i64 o.cfg.idle) := (HQI.out.cell (p := ⟨sb, so + k * 11 + 8, none⟩) (by simp; omega)).trans p8
            have o9 : wr.cell? ⟨sb, so + k * 11 + 9, none⟩ = some (.int .i64 o.cfg.sw) := (HQI.out.cell (p := ⟨sb, so + k * 11 + 9, none⟩) (by simp; omega)).trans p9
            have o10 : wr.cell? ⟨sb, so + k * 11 + 10, none⟩ = some (.slice ta o.cfg.tasks.length tc) := (HQI.out.cell (p := ⟨sb, so + k * 11 + 10, none⟩) (by simp; omega)).trans p10
            go_wp2_with fail
            refine (HP.out.step w.heap.size wr cnt _ o (fun k => k < B0) HSTL.out (by omega) (by omega) ⟨_, rfl, (HT.out.later HQI.out (by omega)).inQ⟩ (fun k e => ⟨by omega, by omega, .inl (by omega)⟩) HOKo.out HMEM.out).mono ?_
            rintro e w5 ⟨rfl, st5, q5⟩
            have HST5 := hide st5
            have HB5 : Hid (Below w.heap.size w w5) := (HBE.out.trans (HQI.out.mono hsz)).trans q5
            have hz5 := q5.size
            clear st5 q5 o0 o1 o2 o3 o4 o5 o6 o7 o8 o9 o10
            go_wp2_with fail
            refine (HP.out.looks w.heap.size w5 (cnt + 1) HST5.out (by omega)).mono ?_
            rintro e w6 ⟨rfl, q6⟩
            have HST6 := hide (HP.out.later _ _ _ _ HST5.out q6)
            have HB6 : Hid (Below w.heap.size w w6) := HB5.out.trans (q6.mono (by omega))
            clear q6
            go_wp2
            go_roundw
            case rel => exact ⟨k + 1, cnt + 1, by go_num, by omega, by omega, HST6.out, HB6.out⟩
            case measure => simp [intOf]; omega
    · go_wp2
      go_ret
      exact ⟨rfl, HBE.out⟩

end Go.Proofs.YthloffgebebijaaGreat

/- RigD: the walk of tillerlaw's (*World).works. -/
namespace Go.Proofs.YthloffgebebijaaGreat
open Go.RowKit Go.MuLone

theorem set_self {α : Type} {l : List α} {i : Nat} {x : α} (h : l[i]? = some x) : l.set i x = l := by
  apply List.ext_getElem?
  intro j
  by_cases e : i = j
  · subst e
    rw [List.getElem?_set_self (lt_of_get h), h]
  · rw [List.getElem?_set_ne e]
theorem own_new {w : World} {own : Nat → Nat} {B Q : Nat} {psv : Value} {nb ni ne nl nt : Nat} {es : List (Nat × Nat)} {xs ys : List Exs} (p : Rig w own B Q psv nb ni ne nl nt es xs ys) {k : Nat} (hk : w.heap.size ≤ k) : own k = 0 := by
  by_cases h : own k = 0
  · exact h
  · have := (p.lo k h).2; omega
theorem LentB.same {w w' : World} {H : Nat} {v : Value} {s : ByteArray} (h : LentB w H v s) (hs : ∀ g, v.ownBlock = some g → w'.heap[g]? = w.heap[g]?) : LentB w' H v s :=
  h.imp id fun ⟨g, hv, hg, hk⟩ => ⟨g, hv, hg, (hs g (by rw [hv]; rfl)).trans hk⟩
theorem LentB.own {w : World} {H : Nat} {v : Value} {s : ByteArray} (h : LentB w H v s) {g : Nat} (hg : v.ownBlock = some g) : H ≤ g ∧ g < w.heap.size := by
  rcases h with ⟨rfl, _⟩ | ⟨g', rfl, h1, h2⟩
  · simp [Value.ownBlock] at hg
  · simp only [Value.ownBlock, Option.some.injEq] at hg
    subst hg
    exact ⟨h1, h2.lt⟩
theorem LentB.form {w : World} {H : Nat} {v : Value} {s : ByteArray} (h : LentB w H v s) : (∃ la lc, v = .slice la s.size lc) ∧ (sbytes s = [] ∨ ∃ g n c, v = .slice (some ⟨g, 0, none⟩) n c) := by
  rcases h with ⟨rfl, h0⟩ | ⟨g, rfl, _, _⟩
  · exact ⟨⟨none, 0, by rw [h0]⟩, .inl (List.eq_nil_of_length_eq_zero (by rw [sbytes_length, h0]))⟩
  · exact ⟨⟨_, _, rfl⟩, .inr ⟨g, _, _, rfl⟩⟩

theorem exRun_len (u : Int) : ∀ (f : Nat) {x : Exs} {N : Int}, ExIn x N → (exRun u f x).2.length ≤ 34 * f
  | 0, x, N, _ => by simp [exRun]
  | f + 1, x, N, h => by
    by_cases hc : x.clock < u ∧ x.clock < 3000
    · rw [exRun_step hc]
      obtain ⟨h1, _, h3⟩ := exRound_in h hc.2
      have := exRun_len u f h1
      simp only [List.length_append]
      omega
    · rw [exRun_stop hc]
      simp

set_option maxRecDepth 100000 in
set_option maxHeartbeats 3200000 in
theorem works5 (own : Nat → Nat) (B Q B0 : Nat) (psv : Value) (nb ni ne nl nt : Nat) (es : List (Nat × Nat)) (xs : List Exs) (i : Nat) (e : Nat × Nat) (x : Exs) (N : Int) (v : Value) (o : Stp) (w : World) (p : Rig w own B Q psv nb ni ne nl nt es xs xs) (hB : B ≤ w.heap.size) (hv : Op1 w B0 v o) (hok : StpW o) (hin : In64 o.a ∧ In64 o.b ∧ In64 o.c) (he : es[i]? = some e) (hx : xs[i]? = some x) (hi : ExIn x N) (hk : o.kind = 5) :
    Calls Tryz.prog 15 #[.pointer (some ⟨B, 0, none⟩), v, .agg #[.pointer (some ⟨e.1, 0, none⟩), .pointer (some ⟨e.2, 0, none⟩)]] w fun r w' => r = .returned (.bool true) ∧ ∃ own' ne' x' N', Rig w' own' B Q psv nb ni ne' nl nt es (xs.set i x') (xs.set i x') ∧ ExIn x' N' ∧ ne' ≤ ne + 1 ∧ Fr (fun k => own k ≠ 0) w w' := by
  obtain ⟨t, rfl, ht⟩ := hv
  obtain ⟨kind, a, b, c, s, cfg⟩ := o
  obtain ⟨x1, x2, x3, x4, x5, ts⟩ := cfg
  obtain ⟨hs, -, -⟩ := hok
  obtain ⟨hia, hib, hic⟩ := hin
  simp only at ht hs hia hib hic hk ⊢
  subst hk
  obtain ⟨ta, tc, rfl⟩ := ht.slice
  have HI := hide hi
  have HE := hide he
  have HX := hide hx
  have hck0 := hi.ck0
  have hck1 := hi.ck1
  have hb2 : Below w.heap.size w ((w.alloc (.cells #[.int .i64 5, .int .i64 a, .int .i64 b, .int .i64 c, .string s, .int .i64 x1, .int .i64 x2, .int .i64 x3, .int .i64 x4, .int .i64 x5, .slice ta ts.length tc] 43)).alloc (.cells #[.pointer (some ⟨e.1, 0, none⟩), .pointer (some ⟨e.2, 0, none⟩)] 49)) := ((Below.refl _ _).alloc (Nat.le_refl _) _).alloc (by simp) _
  have HP2 := hide (p.below hb2)
  have HB2 := hide hb2
  have HOP2 : Hid (Blk ((w.alloc (.cells #[.int .i64 5, .int .i64 a, .int .i64 b, .int .i64 c, .string s, .int .i64 x1, .int .i64 x2, .int .i64 x3, .int .i64 x4, .int .i64 x5, .slice ta ts.length tc] 43)).alloc (.cells #[.pointer (some ⟨e.1, 0, none⟩), .pointer (some ⟨e.2, 0, none⟩)] 49)) w.heap.size #[.int .i64 5, .int .i64 a, .int .i64 b, .int .i64 c, .string s, .int .i64 x1, .int .i64 x2, .int .i64 x3, .int .i64 x4, .int .i64 x5, .slice ta ts.length tc] 43) := (Blk.new w _ _).alloc _
  have HPR2 : Hid (Blk ((w.alloc (.cells #[.int .i64 5, .int .i64 a, .int .i64 b, .int .i64 c, .string s, .int .i64 x1, .int .i64 x2, .int .i64 x3, .int .i64 x4, .int .i64 x5, .slice ta ts.length tc] 43)).alloc (.cells #[.pointer (some ⟨e.1, 0, none⟩), .pointer (some ⟨e.2, 0, none⟩)] 49)) (w.heap.size + 1) #[.pointer (some ⟨e.1, 0, none⟩), .pointer (some ⟨e.2, 0, none⟩)] 49) := by
    have := Blk.new (w.alloc (.cells #[.int .i64 5, .int .i64 a, .int .i64 b, .int .i64 c, .string s, .int .i64 x1, .int .i64 x2, .int .i64 x3, .int .i64 x4, .int .i64 x5, .slice ta ts.length tc] 43)) #[.pointer (some ⟨e.1, 0, none⟩), .pointer (some ⟨e.2, 0, none⟩)] 49
    simpa [Hid] using this
  have HC := hide (HP2.out.cntY he hx hi)
  have HOWN : Hid (∀ k, w.heap.size ≤ k → own k = 0) := fun k hk => own_new p hk
  have hqs := p.qs
  have HLO : Hid (∀ k, own k ≠ 0 → B ≤ k) := fun k e => (p.lo k e).1
  clear p ht hi he hx hb2
  go_enter Tryz.func15, Tryz.ntmps15
  go_wp2_with fail
  refine HC.out.mono ?_
  generalize ((w.alloc (.cells #[.int .i64 5, .int .i64 a, .int .i64 b, .int .i64 c, .string s, .int .i64 x1, .int .i64 x2, .int .i64 x3, .int .i64 x4, .int .i64 x5, .slice ta ts.length tc] 43)).alloc (.cells #[.pointer (some ⟨e.1, 0, none⟩), .pointer (some ⟨e.2, 0, none⟩)] 49)) = W2 at *
  rintro r w3 ⟨rfl, b3⟩
  simp only [countsV]
  have hz2 := HB2.out.size
  have hz3 := b3.size
  have hb4 : Below w3.heap.size w3 (w3.alloc (.cells #[.int .i64 x.clock, .int .i64 x.ct.jobs, .int .i64 x.ct.done, .int .i64 x.jobs.length, .int .i64 x.ct.lost, .int .i64 x.ct.unknown, .int .i64 x.ct.bad, .int .i64 x.ct.spilled, .int .i64 (held x.lines)] 95)) := (Below.refl _ _).alloc (Nat.le_refl _) _
  have hb24 := b3.trans (hb4.mono hz3)
  have HP4 := hide (HP2.out.below hb24)
  have HB4 : Hid (Below w.heap.size w (w3.alloc (.cells #[.int .i64 x.clock, .int .i64 x.ct.jobs, .int .i64 x.ct.done, .int .i64 x.jobs.length, .int .i64 x.ct.lost, .int .i64 x.ct.unknown, .int .i64 x.ct.bad, .int .i64 x.ct.spilled, .int .i64 (held x.lines)] 95))) := HB2.out.trans (hb24.mono hz2)
  have HOP4 := hide (HOP2.out.later hb24 HOP2.out.lt)
  have HPR4 := hide (HPR2.out.later hb24 HPR2.out.lt)
  have HCT4 := hide (Blk.new w3 #[.int .i64 x.clock, .int .i64 x.ct.jobs, .int .i64 x.ct.done, .int .i64 x.jobs.length, .int .i64 x.ct.lost, .int .i64 x.ct.unknown, .int .i64 x.ct.bad, .int .i64 x.ct.spilled, .int .i64 (held x.lines)] 95)
  have hz4 : w3.heap.size < (w3.alloc (.cells #[.int .i64 x.clock, .int .i64 x.ct.jobs, .int .i64 x.ct.done, .int .i64 x.jobs.length, .int .i64 x.ct.lost, .int .i64 x.ct.unknown, .int .i64 x.ct.bad, .int .i64 x.ct.spilled, .int .i64 (held x.lines)] 95)).heap.size := by simp
  have r1 : w3.cell? ⟨w.heap.size, 1, none⟩ = some (.int .i64 a) := (HOP2.out.later b3 HOP2.out.lt).cell 1
  have r2 : w3.cell? ⟨w.heap.size, 2, none⟩ = some (.int .i64 b) := (HOP2.out.later b3 HOP2.out.lt).cell 2
  have r3 : w3.cell? ⟨w.heap.size, 3, none⟩ = some (.int .i64 c) := (HOP2.out.later b3 HOP2.out.lt).cell 3
  have r4 : w3.cell? ⟨w.heap.size, 4, none⟩ = some (.string s) := (HOP2.out.later b3 HOP2.out.lt).cell 4
  have r0 : w3.cell? ⟨w.heap.size, 0, none⟩ = some (.int .i64 5) := (HOP2.out.later b3 HOP2.out.lt).cell 0
  have hol : w.heap.size < w3.heap.size := (HOP2.out.later b3 HOP2.out.lt).lt
  have hpl : w.heap.size + 1 < w3.heap.size := (HPR2.out.later b3 HPR2.out.lt).lt
  clear b3 hb4 hb24 HC
  go_upto_region 12 with (fail)
  generalize (w3.alloc (.cells #[.int .i64 x.clock, .int .i64 x.ct.jobs, .int .i64 x.ct.done, .int .i64 x.jobs.length, .int .i64 x.ct.lost, .int .i64 x.ct.unknown, .int .i64 x.ct.bad, .int .i64 x.ct.spilled, .int .i64 (held x.lines)] 95)) = W4 at *
  have q1 : W4.cell? ⟨w.heap.size, 1, none⟩ = some (.int .i64 a) := HOP4.out.cell 1
  have q4 : W4.cell? ⟨w.heap.size, 4, none⟩ = some (.string s) := HOP4.out.cell 4
  have hol4 : w.heap.size < W4.heap.size := by omega
  have hpl4 : w.heap.size + 1 < W4.heap.size := by omega
  clear r0 r1 r2 r3 r4
  go_wp2_with fail
  refine (lent_any s _ _ (by omega)).mono ?_
  rintro r w5 ⟨lv, rfl, hlb, b5⟩
  obtain ⟨⟨la, lc, hlv⟩, hlf⟩ := hlb.form
  subst hlv
  have hz5 := b5.size
  have HP5 := hide (HP4.out.below b5)
  have HOP5 := hide (HOP4.out.later b5 hol4)
  have HPR5 := hide (HPR4.out.later b5 hpl4)
  have HB5 : Hid (Below w.heap.size w w5) := HB4.out.trans (b5.mono (by omega))
  have HLB5 := hide hlb
  have HLO5 : Hid (∀ g, Value.ownBlock (.slice la s.size lc) = some g → W4.heap.size ≤ g ∧ g < w5.heap.size) := fun g e => hlb.own e
  have hbyt : BytV w5 (fun k => own k ≠ 0) (.slice la s.size lc) (sbytes s) := hlb.rd.byt (Nat.le_refl _) (fun g e e' => e' (HOWN.out g (by have := HLO5.out g e; omega))) hlf
  have hsl := sbytes_length s
  have HFX := hide (HP5.out.feedX (by omega) HE.out HX.out HI.out b (c) hbyt (by omega))
  have q2 : w5.cell? ⟨w.heap.size, 2, none⟩ = some (.int .i64 b) := HOP5.out.cell 2
  have u0 : w5.cell? ⟨w.heap.size + 1, 0, none⟩ = some (.pointer (some ⟨e.1, 0, none⟩)) := HPR5.out.cell 0
  have hol5 : w.heap.size < w5.heap.size := by omega
  have hpl5 : w.heap.size + 1 < w5.heap.size := by omega
  clear b5 hlb q1 q4 hlf hbyt
  generalize hEF : exFeed x b (c) (sbytes s) = EF at *
  have HEF := hide hEF
  have HINF : Hid (∃ N', ExIn EF.1 N') := by
    obtain ⟨N', h', -⟩ := exFeed_in (line := b) (t := c) (bs := sbytes s) HI.out (sbytes_all s)
    rw [hEF] at h'
    exact ⟨N', h'⟩
  obtain ⟨x6, er⟩ := EF
  simp only at HFX HINF
  clear hEF
  go_wp2_with fail
  refine HFX.out.mono ?_
  rintro r w6 ⟨rfl, own6, p6, g6⟩
  have hz6 := g6.1.size
  have hk6 : ∀ k, k < w5.heap.size → own k = 0 → w6.heap[k]? = w5.heap[k]? := fun k hk e => g6.1.block k hk fun e' => e' e
  have HLB6 := hide (HLB5.out.same fun g e => hk6 g (HLO5.out g e).2 (HOWN.out g (by have := HLO5.out g e; omega)))
  have HOP6 : Hid (Blk w6 w.heap.size _ _) := (hk6 _ hol5 (HOWN.out _ (Nat.le_refl _))).trans HOP5.out
  have HPR6 : Hid (Blk w6 (w.heap.size + 1) _ _) := (hk6 _ hpl5 (HOWN.out _ (by omega))).trans HPR5.out
  have HP6 := hide p6
  have HB6 : Hid (Fr (fun k => own k ≠ 0) w w6) := (Fr.of_below HB5.out).trans g6.1 fun _ _ e => e
  have HO6 : Hid (∀ k, k < w5.heap.size → own6 k = own k) := g6.2
  have HBK := hide (back_true W4.heap.size _ s w6 HLB6.out (by omega))
  have v4 : w6.cell? ⟨w.heap.size, 4, none⟩ = some (.string s) := HOP6.out.cell 4
  have hol6 : w.heap.size < w6.heap.size := by omega
  have hpl6 : w.heap.size + 1 < w6.heap.size := by omega
  clear p6 g6 hk6 q2 u0 HFX
  go_wp2_with fail
  refine HBK.out.mono ?_
  rintro r w7 ⟨rfl, f7⟩
  have hz7 := f7.size
  have hnl : ∀ k, k < W4.heap.size → Value.ownBlock (.slice la s.size lc) ≠ some k := fun k hk e => by have := HLO5.out k e; omega
  have HP7 := hide (HP6.out.quiet f7 fun k e => ⟨by rw [HO6.out k (HLO5.out k e).2]; exact HOWN.out k (by have := HLO5.out k e; omega), by have := HLO5.out k e; omega⟩)
  have HOP7 : Hid (Blk w7 w.heap.size _ _) := (f7.block _ hol6 (hnl _ hol4)).trans HOP6.out
  have HPR7 : Hid (Blk w7 (w.heap.size + 1) _ _) := (f7.block _ hpl6 (hnl _ hpl4)).trans HPR6.out
  have HB7 : Hid (Fr (fun k => own k ≠ 0) w w7) := HB6.out.trans f7 fun k hk e => by have := HLO5.out k e; omega
  obtain ⟨cap8, w8, hcv, b8, rd8⟩ := conv_strR s w7
  have hz8 := b8.size
  have HP8 := hide (HP7.out.below b8)
  have HO7 : Hid (∀ k, w7.heap.size ≤ k → own6 k = 0) := fun k hk => own_new HP7.out hk
  have hbyt : BytV w8 (fun k => own6 k ≠ 0) (.slice (some ⟨w7.heap.size, 0, none⟩) s.size cap8) (sbytes s) := rd8.byt (Nat.le_refl _) (fun g e e' => by simp only [Value.ownBlock, Option.some.injEq] at e; exact e' (HO7.out g (by omega))) (.inr ⟨_, _, _, rfl⟩)
  have HFY := hide (HP8.out.feedY (by omega) HE.out HX.out HI.out b (c) hbyt (by omega))
  rw [HEF.out] at HFY
  simp only at HFY
  have HB8 : Hid (Fr (fun k => own k ≠ 0) w w8) := HB7.out.then_below b8
  have y1 : w7.cell? ⟨w.heap.size + 1, 1, none⟩ = some (.pointer (some ⟨e.2, 0, none⟩)) := HPR7.out.cell 1
  have y2 : w7.cell? ⟨w.heap.size, 2, none⟩ = some (.int .i64 b) := HOP7.out.cell 2
  have y4 : w7.cell? ⟨w.heap.size, 4, none⟩ = some (.string s) := HOP7.out.cell 4
  have hol7 : w.heap.size < w7.heap.size := by omega
  have hpl7 : w.heap.size + 1 < w7.heap.size := by omega
  clear f7 b8 rd8 hbyt v4 HBK
  go_wp2_with fail
  refine HFY.out.mono ?_
  rintro r w9 ⟨rfl, own9, p9, g9⟩
  have HP9 := hide p9
  have HB9 : Hid (Fr (fun k => own k ≠ 0) w w9) := HB8.out.trans g9.1 fun k hk e => by rw [HO6.out k (by omega)] at e; exact e
  clear p9 g9 HFY
  go_wp2_with fail
  go_ret
  obtain ⟨N', hN'⟩ := HINF.out
  exact ⟨rfl, own9, ne, x6, N', HP9.out, hN', by omega, HB9.out⟩

set_option maxRecDepth 100000 in
set_option maxHeartbeats 3200000 in
theorem works8 (own : Nat → Nat) (B Q B0 : Nat) (psv : Value) (nb ni ne nl nt : Nat) (es : List (Nat × Nat)) (xs : List Exs) (i : Nat) (e : Nat × Nat) (x : Exs) (N : Int) (v : Value) (o : Stp) (w : World) (p : Rig w own B Q psv nb ni ne nl nt es xs xs) (hB : B ≤ w.heap.size) (hv : Op1 w B0 v o) (hok : StpW o) (hin : In64 o.a ∧ In64 o.b ∧ In64 o.c) (he : es[i]? = some e) (hx : xs[i]? = some x) (hi : ExIn x N) (hk : o.kind = 8) :
    Calls Tryz.prog 15 #[.pointer (some ⟨B, 0, none⟩), v, .agg #[.pointer (some ⟨e.1, 0, none⟩), .pointer (some ⟨e.2, 0, none⟩)]] w fun r w' => r = .returned (.bool true) ∧ ∃ own' ne' x' N', Rig w' own' B Q psv nb ni ne' nl nt es (xs.set i x') (xs.set i x') ∧ ExIn x' N' ∧ ne' ≤ ne + 1 ∧ Fr (fun k => own k ≠ 0) w w' := by
  obtain ⟨t, rfl, ht⟩ := hv
  obtain ⟨kind, a, b, c, s, cfg⟩ := o
  obtain ⟨x1, x2, x3, x4, x5, ts⟩ := cfg
  obtain ⟨hs, -, -⟩ := hok
  obtain ⟨hia, hib, hic⟩ := hin
  simp only at ht hs hia hib hic hk ⊢
  subst hk
  obtain ⟨ta, tc, rfl⟩ := ht.slice
  have HI := hide hi
  have HE := hide he
  have HX := hide hx
  have hck0 := hi.ck0
  have hck1 := hi.ck1
  have hb2 : Below w.heap.size w ((w.alloc (.cells #[.int .i64 8, .int .i64 a, .int .i64 b, .int .i64 c, .string s, .int .i64 x1, .int .i64 x2, .int .i64 x3, .int .i64 x4, .int .i64 x5, .slice ta ts.length tc] 43)).alloc (.cells #[.pointer (some ⟨e.1, 0, none⟩), .pointer (some ⟨e.2, 0, none⟩)] 49)) := ((Below.refl _ _).alloc (Nat.le_refl _) _).alloc (by simp) _
  have HP2 := hide (p.below hb2)
  have HB2 := hide hb2
  have HOP2 : Hid (Blk ((w.alloc (.cells #[.int .i64 8, .int .i64 a, .int .i64 b, .int .i64 c, .string s, .int .i64 x1, .int .i64 x2, .int .i64 x3, .int .i64 x4, .int .i64 x5, .slice ta ts.length tc] 43)).alloc (.cells #[.pointer (some ⟨e.1, 0, none⟩), .pointer (some ⟨e.2, 0, none⟩)] 49)) w.heap.size #[.int .i64 8, .int .i64 a, .int .i64 b, .int .i64 c, .string s, .int .i64 x1, .int .i64 x2, .int .i64 x3, .int .i64 x4, .int .i64 x5, .slice ta ts.length tc] 43) := (Blk.new w _ _).alloc _
  have HPR2 : Hid (Blk ((w.alloc (.cells #[.int .i64 8, .int .i64 a, .int .i64 b, .int .i64 c, .string s, .int .i64 x1, .int .i64 x2, .int .i64 x3, .int .i64 x4, .int .i64 x5, .slice ta ts.length tc] 43)).alloc (.cells #[.pointer (some ⟨e.1, 0, none⟩), .pointer (some ⟨e.2, 0, none⟩)] 49)) (w.heap.size + 1) #[.pointer (some ⟨e.1, 0, none⟩), .pointer (some ⟨e.2, 0, none⟩)] 49) := by
    have := Blk.new (w.alloc (.cells #[.int .i64 8, .int .i64 a, .int .i64 b, .int .i64 c, .string s, .int .i64 x1, .int .i64 x2, .int .i64 x3, .int .i64 x4, .int .i64 x5, .slice ta ts.length tc] 43)) #[.pointer (some ⟨e.1, 0, none⟩), .pointer (some ⟨e.2, 0, none⟩)] 49
    simpa [Hid] using this
  have HC := hide (HP2.out.cntY he hx hi)
  have HOWN : Hid (∀ k, w.heap.size ≤ k → own k = 0) := fun k hk => own_new p hk
  have hqs := p.qs
  have HLO : Hid (∀ k, own k ≠ 0 → B ≤ k) := fun k e => (p.lo k e).1
  clear p ht hi he hx hb2
  go_enter Tryz.func15, Tryz.ntmps15
  go_wp2_with fail
  refine HC.out.mono ?_
  generalize ((w.alloc (.cells #[.int .i64 8, .int .i64 a, .int .i64 b, .int .i64 c, .string s, .int .i64 x1, .int .i64 x2, .int .i64 x3, .int .i64 x4, .int .i64 x5, .slice ta ts.length tc] 43)).alloc (.cells #[.pointer (some ⟨e.1, 0, none⟩), .pointer (some ⟨e.2, 0, none⟩)] 49)) = W2 at *
  rintro r w3 ⟨rfl, b3⟩
  simp only [countsV]
  have hz2 := HB2.out.size
  have hz3 := b3.size
  have hb4 : Below w3.heap.size w3 (w3.alloc (.cells #[.int .i64 x.clock, .int .i64 x.ct.jobs, .int .i64 x.ct.done, .int .i64 x.jobs.length, .int .i64 x.ct.lost, .int .i64 x.ct.unknown, .int .i64 x.ct.bad, .int .i64 x.ct.spilled, .int .i64 (held x.lines)] 95)) := (Below.refl _ _).alloc (Nat.le_refl _) _
  have hb24 := b3.trans (hb4.mono hz3)
  have HP4 := hide (HP2.out.below hb24)
  have HB4 : Hid (Below w.heap.size w (w3.alloc (.cells #[.int .i64 x.clock, .int .i64 x.ct.jobs, .int .i64 x.ct.done, .int .i64 x.jobs.length, .int .i64 x.ct.lost, .int .i64 x.ct.unknown, .int .i64 x.ct.bad, .int .i64 x.ct.spilled, .int .i64 (held x.lines)] 95))) := HB2.out.trans (hb24.mono hz2)
  have HOP4 := hide (HOP2.out.later hb24 HOP2.out.lt)
  have HPR4 := hide (HPR2.out.later hb24 HPR2.out.lt)
  have HCT4 := hide (Blk.new w3 #[.int .i64 x.clock, .int .i64 x.ct.jobs, .int .i64 x.ct.done, .int .i64 x.jobs.length, .int .i64 x.ct.lost, .int .i64 x.ct.unknown, .int .i64 x.ct.bad, .int .i64 x.ct.spilled, .int .i64 (held x.lines)] 95)
  have hz4 : w3.heap.size < (w3.alloc (.cells #[.int .i64 x.clock, .int .i64 x.ct.jobs, .int .i64 x.ct.done, .int .i64 x.jobs.length, .int .i64 x.ct.lost, .int .i64 x.ct.unknown, .int .i64 x.ct.bad, .int .i64 x.ct.spilled, .int .i64 (held x.lines)] 95)).heap.size := by simp
  have r1 : w3.cell? ⟨w.heap.size, 1, none⟩ = some (.int .i64 a) := (HOP2.out.later b3 HOP2.out.lt).cell 1
  have r2 : w3.cell? ⟨w.heap.size, 2, none⟩ = some (.int .i64 b) := (HOP2.out.later b3 HOP2.out.lt).cell 2
  have r3 : w3.cell? ⟨w.heap.size, 3, none⟩ = some (.int .i64 c) := (HOP2.out.later b3 HOP2.out.lt).cell 3
  have r4 : w3.cell? ⟨w.heap.size, 4, none⟩ = some (.string s) := (HOP2.out.later b3 HOP2.out.lt).cell 4
  have r0 : w3.cell? ⟨w.heap.size, 0, none⟩ = some (.int .i64 8) := (HOP2.out.later b3 HOP2.out.lt).cell 0
  have hol : w.heap.size < w3.heap.size := (HOP2.out.later b3 HOP2.out.lt).lt
  have hpl : w.heap.size + 1 < w3.heap.size := (HPR2.out.later b3 HPR2.out.lt).lt
  clear b3 hb4 hb24 HC
  have HPK := hide (lawPick_any c 200 (w3.alloc (.cells #[.int .i64 x.clock, .int .i64 x.ct.jobs, .int .i64 x.ct.done, .int .i64 x.jobs.length, .int .i64 x.ct.lost, .int .i64 x.ct.unknown, .int .i64 x.ct.bad, .int .i64 x.ct.spilled, .int .i64 (held x.lines)] 95)) hic (by omega) (by omega))
  have hp0 := pk_lo c 200 (by omega)
  have hp1 := pk_hi c 200 (by omega)
  generalize pk c 200 = pc at *
  have hwat : IntKind.i64.wrap (x.clock + pc) = x.clock + pc := IntWalk.i64_in _ ⟨by omega, by omega⟩
  go_wp2_with fail
  refine HPK.out.mono ?_
  rintro r w4' ⟨rfl, rfl⟩
  go_upto_region 12 with (fail)
  generalize (w3.alloc (.cells #[.int .i64 x.clock, .int .i64 x.ct.jobs, .int .i64 x.ct.done, .int .i64 x.jobs.length, .int .i64 x.ct.lost, .int .i64 x.ct.unknown, .int .i64 x.ct.bad, .int .i64 x.ct.spilled, .int .i64 (held x.lines)] 95)) = W4 at *
  have q1 : W4.cell? ⟨w.heap.size, 1, none⟩ = some (.int .i64 a) := HOP4.out.cell 1
  have q4 : W4.cell? ⟨w.heap.size, 4, none⟩ = some (.string s) := HOP4.out.cell 4
  have hol4 : w.heap.size < W4.heap.size := by omega
  have hpl4 : w.heap.size + 1 < W4.heap.size := by omega
  clear r0 r1 r2 r3 r4
  go_wp2_with fail
  refine (lent_any s _ _ (by omega)).mono ?_
  rintro r w5 ⟨lv, rfl, hlb, b5⟩
  obtain ⟨⟨la, lc, hlv⟩, hlf⟩ := hlb.form
  subst hlv
  have hz5 := b5.size
  have HP5 := hide (HP4.out.below b5)
  have HOP5 := hide (HOP4.out.later b5 hol4)
  have HPR5 := hide (HPR4.out.later b5 hpl4)
  have HB5 : Hid (Below w.heap.size w w5) := HB4.out.trans (b5.mono (by omega))
  have HLB5 := hide hlb
  have HLO5 : Hid (∀ g, Value.ownBlock (.slice la s.size lc) = some g → W4.heap.size ≤ g ∧ g < w5.heap.size) := fun g e => hlb.own e
  have hbyt : BytV w5 (fun k => own k ≠ 0) (.slice la s.size lc) (sbytes s) := hlb.rd.byt (Nat.le_refl _) (fun g e e' => e' (HOWN.out g (by have := HLO5.out g e; omega))) hlf
  have hsl := sbytes_length s
  have HFX := hide (HP5.out.feedX (by omega) HE.out HX.out HI.out b (x.clock + pc) hbyt (by omega))
  have q2 : w5.cell? ⟨w.heap.size, 2, none⟩ = some (.int .i64 b) := HOP5.out.cell 2
  have u0 : w5.cell? ⟨w.heap.size + 1, 0, none⟩ = some (.pointer (some ⟨e.1, 0, none⟩)) := HPR5.out.cell 0
  have hol5 : w.heap.size < w5.heap.size := by omega
  have hpl5 : w.heap.size + 1 < w5.heap.size := by omega
  clear b5 hlb q1 q4 hlf hbyt
  generalize hEF : exFeed x b (x.clock + pc) (sbytes s) = EF at *
  have HEF := hide hEF
  have HINF : Hid (∃ N', ExIn EF.1 N') := by
    obtain ⟨N', h', -⟩ := exFeed_in (line := b) (t := x.clock + pc) (bs := sbytes s) HI.out (sbytes_all s)
    rw [hEF] at h'
    exact ⟨N', h'⟩
  obtain ⟨x6, er⟩ := EF
  simp only at HFX HINF
  clear hEF
  go_wp2_with fail
  refine HFX.out.mono ?_
  rintro r w6 ⟨rfl, own6, p6, g6⟩
  have hz6 := g6.1.size
  have hk6 : ∀ k, k < w5.heap.size → own k = 0 → w6.heap[k]? = w5.heap[k]? := fun k hk e => g6.1.block k hk fun e' => e' e
  have HLB6 := hide (HLB5.out.same fun g e => hk6 g (HLO5.out g e).2 (HOWN.out g (by have := HLO5.out g e; omega)))
  have HOP6 : Hid (Blk w6 w.heap.size _ _) := (hk6 _ hol5 (HOWN.out _ (Nat.le_refl _))).trans HOP5.out
  have HPR6 : Hid (Blk w6 (w.heap.size + 1) _ _) := (hk6 _ hpl5 (HOWN.out _ (by omega))).trans HPR5.out
  have HP6 := hide p6
  have HB6 : Hid (Fr (fun k => own k ≠ 0) w w6) := (Fr.of_below HB5.out).trans g6.1 fun _ _ e => e
  have HO6 : Hid (∀ k, k < w5.heap.size → own6 k = own k) := g6.2
  have HBK := hide (back_true W4.heap.size _ s w6 HLB6.out (by omega))
  have v4 : w6.cell? ⟨w.heap.size, 4, none⟩ = some (.string s) := HOP6.out.cell 4
  have hol6 : w.heap.size < w6.heap.size := by omega
  have hpl6 : w.heap.size + 1 < w6.heap.size := by omega
  clear p6 g6 hk6 q2 u0 HFX
  go_wp2_with fail
  refine HBK.out.mono ?_
  rintro r w7 ⟨rfl, f7⟩
  have hz7 := f7.size
  have hnl : ∀ k, k < W4.heap.size → Value.ownBlock (.slice la s.size lc) ≠ some k := fun k hk e => by have := HLO5.out k e; omega
  have HP7 := hide (HP6.out.quiet f7 fun k e => ⟨by rw [HO6.out k (HLO5.out k e).2]; exact HOWN.out k (by have := HLO5.out k e; omega), by have := HLO5.out k e; omega⟩)
  have HOP7 : Hid (Blk w7 w.heap.size _ _) := (f7.block _ hol6 (hnl _ hol4)).trans HOP6.out
  have HPR7 : Hid (Blk w7 (w.heap.size + 1) _ _) := (f7.block _ hpl6 (hnl _ hpl4)).trans HPR6.out
  have HB7 : Hid (Fr (fun k => own k ≠ 0) w w7) := HB6.out.trans f7 fun k hk e => by have := HLO5.out k e; omega
  obtain ⟨cap8, w8, hcv, b8, rd8⟩ := conv_strR s w7
  have hz8 := b8.size
  have HP8 := hide (HP7.out.below b8)
  have HO7 : Hid (∀ k, w7.heap.size ≤ k → own6 k = 0) := fun k hk => own_new HP7.out hk
  have hbyt : BytV w8 (fun k => own6 k ≠ 0) (.slice (some ⟨w7.heap.size, 0, none⟩) s.size cap8) (sbytes s) := rd8.byt (Nat.le_refl _) (fun g e e' => by simp only [Value.ownBlock, Option.some.injEq] at e; exact e' (HO7.out g (by omega))) (.inr ⟨_, _, _, rfl⟩)
  have HFY := hide (HP8.out.feedY (by omega) HE.out HX.out HI.out b (x.clock + pc) hbyt (by omega))
  rw [HEF.out] at HFY
  simp only at HFY
  have HB8 : Hid (Fr (fun k => own k ≠ 0) w w8) := HB7.out.then_below b8
  have y1 : w7.cell? ⟨w.heap.size + 1, 1, none⟩ = some (.pointer (some ⟨e.2, 0, none⟩)) := HPR7.out.cell 1
  have y2 : w7.cell? ⟨w.heap.size, 2, none⟩ = some (.int .i64 b) := HOP7.out.cell 2
  have y4 : w7.cell? ⟨w.heap.size, 4, none⟩ = some (.string s) := HOP7.out.cell 4
  have hol7 : w.heap.size < w7.heap.size := by omega
  have hpl7 : w.heap.size + 1 < w7.heap.size := by omega
  clear f7 b8 rd8 hbyt v4 HBK
  go_wp2_with fail
  refine HFY.out.mono ?_
  rintro r w9 ⟨rfl, own9, p9, g9⟩
  have HP9 := hide p9
  have HB9 : Hid (Fr (fun k => own k ≠ 0) w w9) := HB8.out.trans g9.1 fun k hk e => by rw [HO6.out k (by omega)] at e; exact e
  clear p9 g9 HFY
  go_wp2_with fail
  go_ret
  obtain ⟨N', hN'⟩ := HINF.out
  exact ⟨rfl, own9, ne, x6, N', HP9.out, hN', by omega, HB9.out⟩

set_option maxRecDepth 100000 in
set_option maxHeartbeats 3200000 in
theorem works6 (own : Nat → Nat) (B Q B0 : Nat) (psv : Value) (nb ni ne nl nt : Nat) (es : List (Nat × Nat)) (xs : List Exs) (i : Nat) (e : Nat × Nat) (x : Exs) (N : Int) (v : Value) (o : Stp) (w : World) (p : Rig w own B Q psv nb ni ne nl nt es xs xs) (hB : B ≤ w.heap.size) (hv : Op1 w B0 v o) (hok : StpW o) (hin : In64 o.a ∧ In64 o.b ∧ In64 o.c) (he : es[i]? = some e) (hx : xs[i]? = some x) (hi : ExIn x N) (hne : ne ≤ 1300000000000) (hk : o.kind = 6) :
    Calls Tryz.prog 15 #[.pointer (some ⟨B, 0, none⟩), v, .agg #[.pointer (some ⟨e.1, 0, none⟩), .pointer (some ⟨e.2, 0, none⟩)]] w fun r w' => r = .returned (.bool true) ∧ ∃ own' ne' x' N', Rig w' own' B Q psv nb ni ne' nl nt es (xs.set i x') (xs.set i x') ∧ ExIn x' N' ∧ ne' ≤ ne + 1 ∧ Fr (fun k => own k ≠ 0) w w' := by
  obtain ⟨t, rfl, ht⟩ := hv
  obtain ⟨kind, a, b, c, s, cfg⟩ := o
  obtain ⟨x1, x2, x3, x4, x5, ts⟩ := cfg
  obtain ⟨hs, -, -⟩ := hok
  obtain ⟨hia, hib, hic⟩ := hin
  simp only at ht hs hia hib hic hk ⊢
  subst hk
  obtain ⟨ta, tc, rfl⟩ := ht.slice
  have HI := hide hi
  have HE := hide he
  have HX := hide hx
  have hck0 := hi.ck0
  have hck1 := hi.ck1
  have hb2 : Below w.heap.size w ((w.alloc (.cells #[.int .i64 6, .int .i64 a, .int .i64 b, .int .i64 c, .string s, .int .i64 x1, .int .i64 x2, .int .i64 x3, .int .i64 x4, .int .i64 x5, .slice ta ts.length tc] 43)).alloc (.cells #[.pointer (some ⟨e.1, 0, none⟩), .pointer (some ⟨e.2, 0, none⟩)] 49)) := ((Below.refl _ _).alloc (Nat.le_refl _) _).alloc (by simp) _
  have HP2 := hide (p.below hb2)
  have HB2 := hide hb2
  have HOP2 : Hid (Blk ((w.alloc (.cells #[.int .i64 6, .int .i64 a, .int .i64 b, .int .i64 c, .string s, .int .i64 x1, .int .i64 x2, .int .i64 x3, .int .i64 x4, .int .i64 x5, .slice ta ts.length tc] 43)).alloc (.cells #[.pointer (some ⟨e.1, 0, none⟩), .pointer (some ⟨e.2, 0, none⟩)] 49)) w.heap.size #[.int .i64 6, .int .i64 a, .int .i64 b, .int .i64 c, .string s, .int .i64 x1, .int .i64 x2, .int .i64 x3, .int .i64 x4, .int .i64 x5, .slice ta ts.length tc] 43) := (Blk.new w _ _).alloc _
  have HPR2 : Hid (Blk ((w.alloc (.cells #[.int .i64 6, .int .i64 a, .int .i64 b, .int .i64 c, .string s, .int .i64 x1, .int .i64 x2, .int .i64 x3, .int .i64 x4, .int .i64 x5, .slice ta ts.length tc] 43)).alloc (.cells #[.pointer (some ⟨e.1, 0, none⟩), .pointer (some ⟨e.2, 0, none⟩)] 49)) (w.heap.size + 1) #[.pointer (some ⟨e.1, 0, none⟩), .pointer (some ⟨e.2, 0, none⟩)] 49) := by
    have := Blk.new (w.alloc (.cells #[.int .i64 6, .int .i64 a, .int .i64 b, .int .i64 c, .string s, .int .i64 x1, .int .i64 x2, .int .i64 x3, .int .i64 x4, .int .i64 x5, .slice ta ts.length tc] 43)) #[.pointer (some ⟨e.1, 0, none⟩), .pointer (some ⟨e.2, 0, none⟩)] 49
    simpa [Hid] using this
  have HC := hide (HP2.out.cntY he hx hi)
  have HOWN : Hid (∀ k, w.heap.size ≤ k → own k = 0) := fun k hk => own_new p hk
  have hqs := p.qs
  have HLO : Hid (∀ k, own k ≠ 0 → B ≤ k) := fun k e => (p.lo k e).1
  clear p ht hi he hx hb2
  go_enter Tryz.func15, Tryz.ntmps15
  go_wp2_with fail
  refine HC.out.mono ?_
  generalize ((w.alloc (.cells #[.int .i64 6, .int .i64 a, .int .i64 b, .int .i64 c, .string s, .int .i64 x1, .int .i64 x2, .int .i64 x3, .int .i64 x4, .int .i64 x5, .slice ta ts.length tc] 43)).alloc (.cells #[.pointer (some ⟨e.1, 0, none⟩), .pointer (some ⟨e.2, 0, none⟩)] 49)) = W2 at *
  rintro r w3 ⟨rfl, b3⟩
  simp only [countsV]
  have hz2 := HB2.out.size
  have hz3 := b3.size
  have hb4 : Below w3.heap.size w3 (w3.alloc (.cells #[.int .i64 x.clock, .int .i64 x.ct.jobs, .int .i64 x.ct.done, .int .i64 x.jobs.length, .int .i64 x.ct.lost, .int .i64 x.ct.unknown, .int .i64 x.ct.bad, .int .i64 x.ct.spilled, .int .i64 (held x.lines)] 95)) := (Below.refl _ _).alloc (Nat.le_refl _) _
  have hb24 := b3.trans (hb4.mono hz3)
  have HP4 := hide (HP2.out.below hb24)
  have HB4 : Hid (Below w.heap.size w (w3.alloc (.cells #[.int .i64 x.clock, .int .i64 x.ct.jobs, .int .i64 x.ct.done, .int .i64 x.jobs.length, .int .i64 x.ct.lost, .int .i64 x.ct.unknown, .int .i64 x.ct.bad, .int .i64 x.ct.spilled, .int .i64 (held x.lines)] 95))) := HB2.out.trans (hb24.mono hz2)
  have HOP4 := hide (HOP2.out.later hb24 HOP2.out.lt)
  have HPR4 := hide (HPR2.out.later hb24 HPR2.out.lt)
  have HCT4 := hide (Blk.new w3 #[.int .i64 x.clock, .int .i64 x.ct.jobs, .int .i64 x.ct.done, .int .i64 x.jobs.length, .int .i64 x.ct.lost, .int .i64 x.ct.unknown, .int .i64 x.ct.bad, .int .i64 x.ct.spilled, .int .i64 (held x.lines)] 95)
  have hz4 : w3.heap.size < (w3.alloc (.cells #[.int .i64 x.clock, .int .i64 x.ct.jobs, .int .i64 x.ct.done, .int .i64 x.jobs.length, .int .i64 x.ct.lost, .int .i64 x.ct.unknown, .int .i64 x.ct.bad, .int .i64 x.ct.spilled, .int .i64 (held x.lines)] 95)).heap.size := by simp
  have r1 : w3.cell? ⟨w.heap.size, 1, none⟩ = some (.int .i64 a) := (HOP2.out.later b3 HOP2.out.lt).cell 1
  have r2 : w3.cell? ⟨w.heap.size, 2, none⟩ = some (.int .i64 b) := (HOP2.out.later b3 HOP2.out.lt).cell 2
  have r3 : w3.cell? ⟨w.heap.size, 3, none⟩ = some (.int .i64 c) := (HOP2.out.later b3 HOP2.out.lt).cell 3
  have r4 : w3.cell? ⟨w.heap.size, 4, none⟩ = some (.string s) := (HOP2.out.later b3 HOP2.out.lt).cell 4
  have r0 : w3.cell? ⟨w.heap.size, 0, none⟩ = some (.int .i64 6) := (HOP2.out.later b3 HOP2.out.lt).cell 0
  have hol : w.heap.size < w3.heap.size := (HOP2.out.later b3 HOP2.out.lt).lt
  have hpl : w.heap.size + 1 < w3.heap.size := (HPR2.out.later b3 HPR2.out.lt).lt
  clear b3 hb4 hb24 HC
  go_upto_region 19 with (fail)
  generalize (w3.alloc (.cells #[.int .i64 x.clock, .int .i64 x.ct.jobs, .int .i64 x.ct.done, .int .i64 x.jobs.length, .int .i64 x.ct.lost, .int .i64 x.ct.unknown, .int .i64 x.ct.bad, .int .i64 x.ct.spilled, .int .i64 (held x.lines)] 95)) = W4 at *
  have u0 : W4.cell? ⟨w.heap.size + 1, 0, none⟩ = some (.pointer (some ⟨e.1, 0, none⟩)) := HPR4.out.cell 0
  have hol4 : w.heap.size < W4.heap.size := by omega
  have hpl4 : w.heap.size + 1 < W4.heap.size := by omega
  have HRX := hide (HP4.out.runX (by omega) HE.out HX.out HI.out (b))
  have HLEN := hide (exRun_len (b) 3000 HI.out)
  have HINR := hide (exRun_in (b) 3000 HI.out)
  generalize hER : exRun (b) 3000 x = ER at *
  have HER := hide hER
  obtain ⟨x5, es5⟩ := ER
  simp only at HRX HLEN HINR
  clear r0 r1 r2 r3 r4 hER
  go_wp2_with fail
  refine HRX.out.mono ?_
  rintro r w5 ⟨ev, rfl, e5, own5, p5, g5, n5⟩
  obtain ⟨ea, ec, hev⟩ := ownsRow_slice e5
  subst hev
  have hz5 := g5.1.size
  have HPR5 : Hid (Blk w5 (w.heap.size + 1) _ _) := (g5.1.block _ hpl4 fun e' => e' (HOWN.out _ (by omega))).trans HPR4.out
  have HP5 := hide p5
  have HE5 := hide e5
  have HN5 := hide n5
  have HB5 : Hid (Fr (fun k => own k ≠ 0) w w5) := (Fr.of_below HB4.out).trans g5.1 fun _ _ e => e
  have HO5 : Hid (∀ k, k < W4.heap.size → own5 k = own k) := g5.2
  have HRY := hide (p5.runY (by omega) HE.out HX.out HI.out (b))
  rw [HER.out] at HRY
  simp only at HRY
  have u1 : w5.cell? ⟨w.heap.size + 1, 1, none⟩ = some (.pointer (some ⟨e.2, 0, none⟩)) := HPR5.out.cell 1
  have hpl5 : w.heap.size + 1 < w5.heap.size := by omega
  clear e5 p5 g5 n5 u0 HRX
  go_wp2_with fail
  refine HRY.out.mono ?_
  rintro r w6 ⟨ev2, rfl, e6, own6, p6, g6⟩
  obtain ⟨fa, fc, hev2⟩ := ownsRow_slice e6
  subst hev2
  have hz6 := g6.1.size
  have he6 : EvP w6 W4.heap.size (.slice ea es5.length ec) es5 := HE5.out.same fun k hk => g6.1.block k (ownsRow_lt HE5.out hk).2 fun e' => e' (HN5.out k hk)
  have HSE := hide (sameEvents_true W4.heap.size w5.heap.size _ _ es5 w6 he6 e6 (by have := HLEN.out; omega))
  have HE6 := hide he6
  have HP6 := hide p6
  have HN6 : Hid (∀ k, Value.ownBlock (.slice ea es5.length ec) = some k → own6 k = 0) := fun k hk => by rw [g6.2 k (ownsRow_lt HE5.out hk).2]; exact HN5.out k hk
  have HB6 : Hid (Fr (fun k => own k ≠ 0) w w6) := HB5.out.trans g6.1 fun k hk e => by rw [HO5.out k (by omega)] at e; exact e
  have HO6 : Hid (∀ k, k < W4.heap.size → own6 k = own k) := fun k hk => by rw [g6.2 k (by omega)]; exact HO5.out k hk
  clear e6 p6 g6 he6 u1 HRY
  go_wp2_with fail
  refine HSE.out.mono ?_
  rintro r w7 ⟨rfl, b7⟩
  have hz7 := b7.size
  have HB7 : Hid (Fr (fun k => own k ≠ 0) w w7) := HB6.out.then_below b7
  have hown : w7.ownsRow B 149 5 (.slice ea es5.length ec) es5.length (erow es5) := ownsRow_lower' (HE6.out.later b7) (by omega)
  have HEV := hide ((HP6.out.below b7).event (by omega) hown (fun k hk => ⟨HN6.out k hk, by have := (ownsRow_lt HE5.out hk).1; omega⟩) (by have := HLEN.out; omega) hne)
  clear b7 hown HSE
  go_wp2_with fail
  refine HEV.out.mono ?_
  rintro r w8 ⟨rfl, own8, p8, b8⟩
  have HP8 := hide p8
  have HB8 : Hid (Fr (fun k => own k ≠ 0) w w8) := HB7.out.trans b8 fun k hk e => by
    rcases e with e | e
    · rw [HO6.out k (by omega)] at e; exact e
    · have := (ownsRow_lt HE5.out e).1; omega
  clear p8 b8 HEV
  go_wp2_with fail
  go_ret
  exact ⟨rfl, own8, ne + 1, x5, N, HP8.out, HINR.out, by omega, HB8.out⟩

set_option maxRecDepth 100000 in
set_option maxHeartbeats 3200000 in
theorem works9 (own : Nat → Nat) (B Q B0 : Nat) (psv : Value) (nb ni ne nl nt : Nat) (es : List (Nat × Nat)) (xs : List Exs) (i : Nat) (e : Nat × Nat) (x : Exs) (N : Int) (v : Value) (o : Stp) (w : World) (p : Rig w own B Q psv nb ni ne nl nt es xs xs) (hB : B ≤ w.heap.size) (hv : Op1 w B0 v o) (hok : StpW o) (hin : In64 o.a ∧ In64 o.b ∧ In64 o.c) (he : es[i]? = some e) (hx : xs[i]? = some x) (hi : ExIn x N) (hne : ne ≤ 1300000000000) (hk : o.kind = 9) :
    Calls Tryz.prog 15 #[.pointer (some ⟨B, 0, none⟩), v, .agg #[.pointer (some ⟨e.1, 0, none⟩), .pointer (some ⟨e.2, 0, none⟩)]] w fun r w' => r = .returned (.bool true) ∧ ∃ own' ne' x' N', Rig w' own' B Q psv nb ni ne' nl nt es (xs.set i x') (xs.set i x') ∧ ExIn x' N' ∧ ne' ≤ ne + 1 ∧ Fr (fun k => own k ≠ 0) w w' := by
  obtain ⟨t, rfl, ht⟩ := hv
  obtain ⟨kind, a, b, c, s, cfg⟩ := o
  obtain ⟨x1, x2, x3, x4, x5, ts⟩ := cfg
  obtain ⟨hs, -, -⟩ := hok
  obtain ⟨hia, hib, hic⟩ := hin
  simp only at ht hs hia hib hic hk ⊢
  subst hk
  obtain ⟨ta, tc, rfl⟩ := ht.slice
  have HI := hide hi
  have HE := hide he
  have HX := hide hx
  have hck0 := hi.ck0
  have hck1 := hi.ck1
  have hb2 : Below w.heap.size w ((w.alloc (.cells #[.int .i64 9, .int .i64 a, .int .i64 b, .int .i64 c, .string s, .int .i64 x1, .int .i64 x2, .int .i64 x3, .int .i64 x4, .int .i64 x5, .slice ta ts.length tc] 43)).alloc (.cells #[.pointer (some ⟨e.1, 0, none⟩), .pointer (some ⟨e.2, 0, none⟩)] 49)) := ((Below.refl _ _).alloc (Nat.le_refl _) _).alloc (by simp) _
  have HP2 := hide (p.below hb2)
  have HB2 := hide hb2
  have HOP2 : Hid (Blk ((w.alloc (.cells #[.int .i64 9, .int .i64 a, .int .i64 b, .int .i64 c, .string s, .int .i64 x1, .int .i64 x2, .int .i64 x3, .int .i64 x4, .int .i64 x5, .slice ta ts.length tc] 43)).alloc (.cells #[.pointer (some ⟨e.1, 0, none⟩), .pointer (some ⟨e.2, 0, none⟩)] 49)) w.heap.size #[.int .i64 9, .int .i64 a, .int .i64 b, .int .i64 c, .string s, .int .i64 x1, .int .i64 x2, .int .i64 x3, .int .i64 x4, .int .i64 x5, .slice ta ts.length tc] 43) := (Blk.new w _ _).alloc _
  have HPR2 : Hid (Blk ((w.alloc (.cells #[.int .i64 9, .int .i64 a, .int .i64 b, .int .i64 c, .string s, .int .i64 x1, .int .i64 x2, .int .i64 x3, .int .i64 x4, .int .i64 x5, .slice ta ts.length tc] 43)).alloc (.cells #[.pointer (some ⟨e.1, 0, none⟩), .pointer (some ⟨e.2, 0, none⟩)] 49)) (w.heap.size + 1) #[.pointer (some ⟨e.1, 0, none⟩), .pointer (some ⟨e.2, 0, none⟩)] 49) := by
    have := Blk.new (w.alloc (.cells #[.int .i64 9, .int .i64 a, .int .i64 b, .int .i64 c, .string s, .int .i64 x1, .int .i64 x2, .int .i64 x3, .int .i64 x4, .int .i64 x5, .slice ta ts.length tc] 43)) #[.pointer (some ⟨e.1, 0, none⟩), .pointer (some ⟨e.2, 0, none⟩)] 49
    simpa [Hid] using this
  have HC := hide (HP2.out.cntY he hx hi)
  have HOWN : Hid (∀ k, w.heap.size ≤ k → own k = 0) := fun k hk => own_new p hk
  have hqs := p.qs
  have HLO : Hid (∀ k, own k ≠ 0 → B ≤ k) := fun k e => (p.lo k e).1
  clear p ht hi he hx hb2
  go_enter Tryz.func15, Tryz.ntmps15
  go_wp2_with fail
  refine HC.out.mono ?_
  generalize ((w.alloc (.cells #[.int .i64 9, .int .i64 a, .int .i64 b, .int .i64 c, .string s, .int .i64 x1, .int .i64 x2, .int .i64 x3, .int .i64 x4, .int .i64 x5, .slice ta ts.length tc] 43)).alloc (.cells #[.pointer (some ⟨e.1, 0, none⟩), .pointer (some ⟨e.2, 0, none⟩)] 49)) = W2 at *
  rintro r w3 ⟨rfl, b3⟩
  simp only [countsV]
  have hz2 := HB2.out.size
  have hz3 := b3.size
  have hb4 : Below w3.heap.size w3 (w3.alloc (.cells #[.int .i64 x.clock, .int .i64 x.ct.jobs, .int .i64 x.ct.done, .int .i64 x.jobs.length, .int .i64 x.ct.lost, .int .i64 x.ct.unknown, .int .i64 x.ct.bad, .int .i64 x.ct.spilled, .int .i64 (held x.lines)] 95)) := (Below.refl _ _).alloc (Nat.le_refl _) _
  have hb24 := b3.trans (hb4.mono hz3)
  have HP4 := hide (HP2.out.below hb24)
  have HB4 : Hid (Below w.heap.size w (w3.alloc (.cells #[.int .i64 x.clock, .int .i64 x.ct.jobs, .int .i64 x.ct.done, .int .i64 x.jobs.length, .int .i64 x.ct.lost, .int .i64 x.ct.unknown, .int .i64 x.ct.bad, .int .i64 x.ct.spilled, .int .i64 (held x.lines)] 95))) := HB2.out.trans (hb24.mono hz2)
  have HOP4 := hide (HOP2.out.later hb24 HOP2.out.lt)
  have HPR4 := hide (HPR2.out.later hb24 HPR2.out.lt)
  have HCT4 := hide (Blk.new w3 #[.int .i64 x.clock, .int .i64 x.ct.jobs, .int .i64 x.ct.done, .int .i64 x.jobs.length, .int .i64 x.ct.lost, .int .i64 x.ct.unknown, .int .i64 x.ct.bad, .int .i64 x.ct.spilled, .int .i64 (held x.lines)] 95)
  have hz4 : w3.heap.size < (w3.alloc (.cells #[.int .i64 x.clock, .int .i64 x.ct.jobs, .int .i64 x.ct.done, .int .i64 x.jobs.length, .int .i64 x.ct.lost, .int .i64 x.ct.unknown, .int .i64 x.ct.bad, .int .i64 x.ct.spilled, .int .i64 (held x.lines)] 95)).heap.size := by simp
  have r1 : w3.cell? ⟨w.heap.size, 1, none⟩ = some (.int .i64 a) := (HOP2.out.later b3 HOP2.out.lt).cell 1
  have r2 : w3.cell? ⟨w.heap.size, 2, none⟩ = some (.int .i64 b) := (HOP2.out.later b3 HOP2.out.lt).cell 2
  have r3 : w3.cell? ⟨w.heap.size, 3, none⟩ = some (.int .i64 c) := (HOP2.out.later b3 HOP2.out.lt).cell 3
  have r4 : w3.cell? ⟨w.heap.size, 4, none⟩ = some (.string s) := (HOP2.out.later b3 HOP2.out.lt).cell 4
  have r0 : w3.cell? ⟨w.heap.size, 0, none⟩ = some (.int .i64 9) := (HOP2.out.later b3 HOP2.out.lt).cell 0
  have hol : w.heap.size < w3.heap.size := (HOP2.out.later b3 HOP2.out.lt).lt
  have hpl : w.heap.size + 1 < w3.heap.size := (HPR2.out.later b3 HPR2.out.lt).lt
  clear b3 hb4 hb24 HC
  have HPK := hide (lawPick_any b 200 (w3.alloc (.cells #[.int .i64 x.clock, .int .i64 x.ct.jobs, .int .i64 x.ct.done, .int .i64 x.jobs.length, .int .i64 x.ct.lost, .int .i64 x.ct.unknown, .int .i64 x.ct.bad, .int .i64 x.ct.spilled, .int .i64 (held x.lines)] 95)) hib (by omega) (by omega))
  have hp0 := pk_lo b 200 (by omega)
  have hp1 := pk_hi b 200 (by omega)
  generalize pk b 200 = pc at *
  have hwat : IntKind.i64.wrap (x.clock + pc) = x.clock + pc := IntWalk.i64_in _ ⟨by omega, by omega⟩
  go_wp2_with fail
  refine HPK.out.mono ?_
  rintro r w4' ⟨rfl, rfl⟩
  go_upto_region 19 with (fail)
  generalize (w3.alloc (.cells #[.int .i64 x.clock, .int .i64 x.ct.jobs, .int .i64 x.ct.done, .int .i64 x.jobs.length, .int .i64 x.ct.lost, .int .i64 x.ct.unknown, .int .i64 x.ct.bad, .int .i64 x.ct.spilled, .int .i64 (held x.lines)] 95)) = W4 at *
  have u0 : W4.cell? ⟨w.heap.size + 1, 0, none⟩ = some (.pointer (some ⟨e.1, 0, none⟩)) := HPR4.out.cell 0
  have hol4 : w.heap.size < W4.heap.size := by omega
  have hpl4 : w.heap.size + 1 < W4.heap.size := by omega
  have HRX := hide (HP4.out.runX (by omega) HE.out HX.out HI.out (x.clock + pc))
  have HLEN := hide (exRun_len (x.clock + pc) 3000 HI.out)
  have HINR := hide (exRun_in (x.clock + pc) 3000 HI.out)
  generalize hER : exRun (x.clock + pc) 3000 x = ER at *
  have HER := hide hER
  obtain ⟨x5, es5⟩ := ER
  simp only at HRX HLEN HINR
  clear r0 r1 r2 r3 r4 hER
  go_wp2_with fail
  refine HRX.out.mono ?_
  rintro r w5 ⟨ev, rfl, e5, own5, p5, g5, n5⟩
  obtain ⟨ea, ec, hev⟩ := ownsRow_slice e5
  subst hev
  have hz5 := g5.1.size
  have HPR5 : Hid (Blk w5 (w.heap.size + 1) _ _) := (g5.1.block _ hpl4 fun e' => e' (HOWN.out _ (by omega))).trans HPR4.out
  have HP5 := hide p5
  have HE5 := hide e5
  have HN5 := hide n5
  have HB5 : Hid (Fr (fun k => own k ≠ 0) w w5) := (Fr.of_below HB4.out).trans g5.1 fun _ _ e => e
  have HO5 : Hid (∀ k, k < W4.heap.size → own5 k = own k) := g5.2
  have HRY := hide (p5.runY (by omega) HE.out HX.out HI.out (x.clock + pc))
  rw [HER.out] at HRY
  simp only at HRY
  have u1 : w5.cell? ⟨w.heap.size + 1, 1, none⟩ = some (.pointer (some ⟨e.2, 0, none⟩)) := HPR5.out.cell 1
  have hpl5 : w.heap.size + 1 < w5.heap.size := by omega
  clear e5 p5 g5 n5 u0 HRX
  go_wp2_with fail
  refine HRY.out.mono ?_
  rintro r w6 ⟨ev2, rfl, e6, own6, p6, g6⟩
  obtain ⟨fa, fc, hev2⟩ := ownsRow_slice e6
  subst hev2
  have hz6 := g6.1.size
  have he6 : EvP w6 W4.heap.size (.slice ea es5.length ec) es5 := HE5.out.same fun k hk => g6.1.block k (ownsRow_lt HE5.out hk).2 fun e' => e' (HN5.out k hk)
  have HSE := hide (sameEvents_true W4.heap.size w5.heap.size _ _ es5 w6 he6 e6 (by have := HLEN.out; omega))
  have HE6 := hide he6
  have HP6 := hide p6
  have HN6 : Hid (∀ k, Value.ownBlock (.slice ea es5.length ec) = some k → own6 k = 0) := fun k hk => by rw [g6.2 k (ownsRow_lt HE5.out hk).2]; exact HN5.out k hk
  have HB6 : Hid (Fr (fun k => own k ≠ 0) w w6) := HB5.out.trans g6.1 fun k hk e => by rw [HO5.out k (by omega)] at e; exact e
  have HO6 : Hid (∀ k, k < W4.heap.size → own6 k = own k) := fun k hk => by rw [g6.2 k (by omega)]; exact HO5.out k hk
  clear e6 p6 g6 he6 u1 HRY
  go_wp2_with fail
  refine HSE.out.mono ?_
  rintro r w7 ⟨rfl, b7⟩
  have hz7 := b7.size
  have HB7 : Hid (Fr (fun k => own k ≠ 0) w w7) := HB6.out.then_below b7
  have hown : w7.ownsRow B 149 5 (.slice ea es5.length ec) es5.length (erow es5) := ownsRow_lower' (HE6.out.later b7) (by omega)
  have HEV := hide ((HP6.out.below b7).event (by omega) hown (fun k hk => ⟨HN6.out k hk, by have := (ownsRow_lt HE5.out hk).1; omega⟩) (by have := HLEN.out; omega) hne)
  clear b7 hown HSE
  go_wp2_with fail
  refine HEV.out.mono ?_
  rintro r w8 ⟨rfl, own8, p8, b8⟩
  have HP8 := hide p8
  have HB8 : Hid (Fr (fun k => own k ≠ 0) w w8) := HB7.out.trans b8 fun k hk e => by
    rcases e with e | e
    · rw [HO6.out k (by omega)] at e; exact e
    · have := (ownsRow_lt HE5.out e).1; omega
  clear p8 b8 HEV
  go_wp2_with fail
  go_ret
  exact ⟨rfl, own8, ne + 1, x5, N, HP8.out, HINR.out, by omega, HB8.out⟩

set_option maxRecDepth 100000 in
set_option maxHeartbeats 3200000 in
theorem works7 (own : Nat → Nat) (B Q B0 : Nat) (psv : Value) (nb ni ne nl nt : Nat) (es : List (Nat × Nat)) (xs : List Exs) (i : Nat) (e : Nat × Nat) (x : Exs) (N : Int) (v : Value) (o : Stp) (w : World) (p : Rig w own B Q psv nb ni ne nl nt es xs xs) (hB : B ≤ w.heap.size) (hv : Op1 w B0 v o) (hok : StpW o) (hin : In64 o.a ∧ In64 o.b ∧ In64 o.c) (he : es[i]? = some e) (hx : xs[i]? = some x) (hi : ExIn x N) (hk : o.kind = 7) :
    Calls Tryz.prog 15 #[.pointer (some ⟨B, 0, none⟩), v, .agg #[.pointer (some ⟨e.1, 0, none⟩), .pointer (some ⟨e.2, 0, none⟩)]] w fun r w' => r = .returned (.bool true) ∧ ∃ own' ne' x' N', Rig w' own' B Q psv nb ni ne' nl nt es (xs.set i x') (xs.set i x') ∧ ExIn x' N' ∧ ne' ≤ ne + 1 ∧ Fr (fun k => own k ≠ 0) w w' := by
  obtain ⟨t, rfl, ht⟩ := hv
  obtain ⟨kind, a, b, c, s, cfg⟩ := o
  obtain ⟨x1, x2, x3, x4, x5, ts⟩ := cfg
  obtain ⟨hs, -, -⟩ := hok
  obtain ⟨hia, hib, hic⟩ := hin
  simp only at ht hs hia hib hic hk ⊢
  subst hk
  obtain ⟨ta, tc, rfl⟩ := ht.slice
  have HI := hide hi
  have HE := hide he
  have HX := hide hx
  have hck0 := hi.ck0
  have hck1 := hi.ck1
  have hb2 : Below w.heap.size w ((w.alloc (.cells #[.int .i64 7, .int .i64 a, .int .i64 b, .int .i64 c, .string s, .int .i64 x1, .int .i64 x2, .int .i64 x3, .int .i64 x4, .int .i64 x5, .slice ta ts.length tc] 43)).alloc (.cells #[.pointer (some ⟨e.1, 0, none⟩), .pointer (some ⟨e.2, 0, none⟩)] 49)) := ((Below.refl _ _).alloc (Nat.le_refl _) _).alloc (by simp) _
  have HP2 := hide (p.below hb2)
  have HB2 := hide hb2
  have HOP2 : Hid (Blk ((w.alloc (.cells #[.int .i64 7, .int .i64 a, .int .i64 b, .int .i64 c, .string s, .int .i64 x1, .int .i64 x2, .int .i64 x3, .int .i64 x4, .int .i64 x5, .slice ta ts.length tc] 43)).alloc (.cells #[.pointer (some ⟨e.1, 0, none⟩), .pointer (some ⟨e.2, 0, none⟩)] 49)) w.heap.size #[.int .i64 7, .int .i64 a, .int .i64 b, .int .i64 c, .string s, .int .i64 x1, .int .i64 x2, .int .i64 x3, .int .i64 x4, .int .i64 x5, .slice ta ts.length tc] 43) := (Blk.new w _ _).alloc _
  have HPR2 : Hid (Blk ((w.alloc (.cells #[.int .i64 7, .int .i64 a, .int .i64 b, .int .i64 c, .string s, .int .i64 x1, .int .i64 x2, .int .i64 x3, .int .i64 x4, .int .i64 x5, .slice ta ts.length tc] 43)).alloc (.cells #[.pointer (some ⟨e.1, 0, none⟩), .pointer (some ⟨e.2, 0, none⟩)] 49)) (w.heap.size + 1) #[.pointer (some ⟨e.1, 0, none⟩), .pointer (some ⟨e.2, 0, none⟩)] 49) := by
    have := Blk.new (w.alloc (.cells #[.int .i64 7, .int .i64 a, .int .i64 b, .int .i64 c, .string s, .int .i64 x1, .int .i64 x2, .int .i64 x3, .int .i64 x4, .int .i64 x5, .slice ta ts.length tc] 43)) #[.pointer (some ⟨e.1, 0, none⟩), .pointer (some ⟨e.2, 0, none⟩)] 49
    simpa [Hid] using this
  have HC := hide (HP2.out.cntY he hx hi)
  have HOWN : Hid (∀ k, w.heap.size ≤ k → own k = 0) := fun k hk => own_new p hk
  have hqs := p.qs
  have HLO : Hid (∀ k, own k ≠ 0 → B ≤ k) := fun k e => (p.lo k e).1
  clear p ht hi he hx hb2
  go_enter Tryz.func15, Tryz.ntmps15
  go_wp2_with fail
  refine HC.out.mono ?_
  generalize ((w.alloc (.cells #[.int .i64 7, .int .i64 a, .int .i64 b, .int .i64 c, .string s, .int .i64 x1, .int .i64 x2, .int .i64 x3, .int .i64 x4, .int .i64 x5, .slice ta ts.length tc] 43)).alloc (.cells #[.pointer (some ⟨e.1, 0, none⟩), .pointer (some ⟨e.2, 0, none⟩)] 49)) = W2 at *
  rintro r w3 ⟨rfl, b3⟩
  simp only [countsV]
  have hz2 := HB2.out.size
  have hz3 := b3.size
  have hb4 : Below w3.heap.size w3 (w3.alloc (.cells #[.int .i64 x.clock, .int .i64 x.ct.jobs, .int .i64 x.ct.done, .int .i64 x.jobs.length, .int .i64 x.ct.lost, .int .i64 x.ct.unknown, .int .i64 x.ct.bad, .int .i64 x.ct.spilled, .int .i64 (held x.lines)] 95)) := (Below.refl _ _).alloc (Nat.le_refl _) _
  have hb24 := b3.trans (hb4.mono hz3)
  have HP4 := hide (HP2.out.below hb24)
  have HB4 : Hid (Below w.heap.size w (w3.alloc (.cells #[.int .i64 x.clock, .int .i64 x.ct.jobs, .int .i64 x.ct.done, .int .i64 x.jobs.length, .int .i64 x.ct.lost, .int .i64 x.ct.unknown, .int .i64 x.ct.bad, .int .i64 x.ct.spilled, .int .i64 (held x.lines)] 95))) := HB2.out.trans (hb24.mono hz2)
  have HOP4 := hide (HOP2.out.later hb24 HOP2.out.lt)
  have HPR4 := hide (HPR2.out.later hb24 HPR2.out.lt)
  have HCT4 := hide (Blk.new w3 #[.int .i64 x.clock, .int .i64 x.ct.jobs, .int .i64 x.ct.done, .int .i64 x.jobs.length, .int .i64 x.ct.lost, .int .i64 x.ct.unknown, .int .i64 x.ct.bad, .int .i64 x.ct.spilled, .int .i64 (held x.lines)] 95)
  have hz4 : w3.heap.size < (w3.alloc (.cells #[.int .i64 x.clock, .int .i64 x.ct.jobs, .int .i64 x.ct.done, .int .i64 x.jobs.length, .int .i64 x.ct.lost, .int .i64 x.ct.unknown, .int .i64 x.ct.bad, .int .i64 x.ct.spilled, .int .i64 (held x.lines)] 95)).heap.size := by simp
  have r1 : w3.cell? ⟨w.heap.size, 1, none⟩ = some (.int .i64 a) := (HOP2.out.later b3 HOP2.out.lt).cell 1
  have r2 : w3.cell? ⟨w.heap.size, 2, none⟩ = some (.int .i64 b) := (HOP2.out.later b3 HOP2.out.lt).cell 2
  have r3 : w3.cell? ⟨w.heap.size, 3, none⟩ = some (.int .i64 c) := (HOP2.out.later b3 HOP2.out.lt).cell 3
  have r4 : w3.cell? ⟨w.heap.size, 4, none⟩ = some (.string s) := (HOP2.out.later b3 HOP2.out.lt).cell 4
  have r0 : w3.cell? ⟨w.heap.size, 0, none⟩ = some (.int .i64 7) := (HOP2.out.later b3 HOP2.out.lt).cell 0
  have hol : w.heap.size < w3.heap.size := (HOP2.out.later b3 HOP2.out.lt).lt
  have hpl : w.heap.size + 1 < w3.heap.size := (HPR2.out.later b3 HPR2.out.lt).lt
  clear b3 hb4 hb24 HC
  go_upto_region 24 with (fail)
  generalize (w3.alloc (.cells #[.int .i64 x.clock, .int .i64 x.ct.jobs, .int .i64 x.ct.done, .int .i64 x.jobs.length, .int .i64 x.ct.lost, .int .i64 x.ct.unknown, .int .i64 x.ct.bad, .int .i64 x.ct.spilled, .int .i64 (held x.lines)] 95)) = W4 at *
  have u0 : W4.cell? ⟨w.heap.size + 1, 0, none⟩ = some (.pointer (some ⟨e.1, 0, none⟩)) := HPR4.out.cell 0
  have hol4 : w.heap.size < W4.heap.size := by omega
  have hpl4 : w.heap.size + 1 < W4.heap.size := by omega
  have HCX := hide (HP4.out.cntX (by omega) HE.out HX.out HI.out)
  clear r0 r1 r2 r3 r4
  go_wp2_with fail
  refine HCX.out.mono ?_
  rintro r w5 ⟨rfl, own5, p5, g5⟩
  simp only [countsV]
  have hz5 := g5.1.size
  have hb6 : Below w5.heap.size w5 (w5.alloc (.cells #[.int .i64 x.clock, .int .i64 x.ct.jobs, .int .i64 x.ct.done, .int .i64 x.jobs.length, .int .i64 x.ct.lost, .int .i64 x.ct.unknown, .int .i64 x.ct.bad, .int .i64 x.ct.spilled, .int .i64 (held x.lines)] 95)) := (Below.refl _ _).alloc (Nat.le_refl _) _
  have hpr5 : Blk w5 (w.heap.size + 1) _ _ := (g5.1.block _ hpl4 fun e' => e' (HOWN.out _ (by omega))).trans HPR4.out
  have HPR6 := hide (hpr5.later hb6 hpr5.lt)
  have HP6 := hide (p5.below hb6)
  have HB6 : Hid (Fr (fun k => own k ≠ 0) w (w5.alloc (.cells #[.int .i64 x.clock, .int .i64 x.ct.jobs, .int .i64 x.ct.done, .int .i64 x.jobs.length, .int .i64 x.ct.lost, .int .i64 x.ct.unknown, .int .i64 x.ct.bad, .int .i64 x.ct.spilled, .int .i64 (held x.lines)] 95))) := ((Fr.of_below HB4.out).trans g5.1 fun _ _ e => e).then_below hb6
  have HK6 := hide (Blk.new w5 #[.int .i64 x.clock, .int .i64 x.ct.jobs, .int .i64 x.ct.done, .int .i64 x.jobs.length, .int .i64 x.ct.lost, .int .i64 x.ct.unknown, .int .i64 x.ct.bad, .int .i64 x.ct.spilled, .int .i64 (held x.lines)] 95)
  have HCY := hide (HP6.out.cntY HE.out HX.out HI.out)
  have hz6 : w5.heap.size < (w5.alloc (.cells #[.int .i64 x.clock, .int .i64 x.ct.jobs, .int .i64 x.ct.done, .int .i64 x.jobs.length, .int .i64 x.ct.lost, .int .i64 x.ct.unknown, .int .i64 x.ct.bad, .int .i64 x.ct.spilled, .int .i64 (held x.lines)] 95)).heap.size := by simp
  clear p5 g5 hb6 hpr5 u0 HCX
  go_upto_region 25 with (fail)
  generalize (w5.alloc (.cells #[.int .i64 x.clock, .int .i64 x.ct.jobs, .int .i64 x.ct.done, .int .i64 x.jobs.length, .int .i64 x.ct.lost, .int .i64 x.ct.unknown, .int .i64 x.ct.bad, .int .i64 x.ct.spilled, .int .i64 (held x.lines)] 95)) = W6 at *
  have u1 : W6.cell? ⟨w.heap.size + 1, 1, none⟩ = some (.pointer (some ⟨e.2, 0, none⟩)) := HPR6.out.cell 1
  have hpl6 := HPR6.out.lt
  go_wp2_with fail
  refine HCY.out.mono ?_
  rintro r w7 ⟨rfl, b7⟩
  simp only [countsV]
  have hz7 := b7.size
  have hb8 : Below w7.heap.size w7 (w7.alloc (.cells #[.int .i64 x.clock, .int .i64 x.ct.jobs, .int .i64 x.ct.done, .int .i64 x.jobs.length, .int .i64 x.ct.lost, .int .i64 x.ct.unknown, .int .i64 x.ct.bad, .int .i64 x.ct.spilled, .int .i64 (held x.lines)] 95)) := (Below.refl _ _).alloc (Nat.le_refl _) _
  have hb68 := b7.trans (hb8.mono hz7)
  have HP8 := hide (HP6.out.below hb68)
  have HB8 : Hid (Fr (fun k => own k ≠ 0) w (w7.alloc (.cells #[.int .i64 x.clock, .int .i64 x.ct.jobs, .int .i64 x.ct.done, .int .i64 x.jobs.length, .int .i64 x.ct.lost, .int .i64 x.ct.unknown, .int .i64 x.ct.bad, .int .i64 x.ct.spilled, .int .i64 (held x.lines)] 95))) := HB6.out.then_below hb68
  have HK8 := hide (HK6.out.later hb68 HK6.out.lt)
  have HM8 := hide (Blk.new w7 #[.int .i64 x.clock, .int .i64 x.ct.jobs, .int .i64 x.ct.done, .int .i64 x.jobs.length, .int .i64 x.ct.lost, .int .i64 x.ct.unknown, .int .i64 x.ct.bad, .int .i64 x.ct.spilled, .int .i64 (held x.lines)] 95)
  clear b7 hb8 hb68 u1 HCY
  go_upto_region 26 with (fail)
  generalize (w7.alloc (.cells #[.int .i64 x.clock, .int .i64 x.ct.jobs, .int .i64 x.ct.done, .int .i64 x.jobs.length, .int .i64 x.ct.lost, .int .i64 x.ct.unknown, .int .i64 x.ct.bad, .int .i64 x.ct.spilled, .int .i64 (held x.lines)] 95)) = W8 at *
  have k0 : W8.cell? ⟨w5.heap.size, 0, none⟩ = some (.int .i64 x.clock) := HK8.out.cell 0
  have m0 : W8.cell? ⟨w7.heap.size, 0, none⟩ = some (.int .i64 x.clock) := HM8.out.cell 0
  have k1 : W8.cell? ⟨w5.heap.size, 1, none⟩ = some (.int .i64 x.ct.jobs) := HK8.out.cell 1
  have m1 : W8.cell? ⟨w7.heap.size, 1, none⟩ = some (.int .i64 x.ct.jobs) := HM8.out.cell 1
  have k2 : W8.cell? ⟨w5.heap.size, 2, none⟩ = some (.int .i64 x.ct.done) := HK8.out.cell 2
  have m2 : W8.cell? ⟨w7.heap.size, 2, none⟩ = some (.int .i64 x.ct.done) := HM8.out.cell 2
  have k3 : W8.cell? ⟨w5.heap.size, 3, none⟩ = some (.int .i64 x.jobs.length) := HK8.out.cell 3
  have m3 : W8.cell? ⟨w7.heap.size, 3, none⟩ = some (.int .i64 x.jobs.length) := HM8.out.cell 3
  have k4 : W8.cell? ⟨w5.heap.size, 4, none⟩ = some (.int .i64 x.ct.lost) := HK8.out.cell 4
  have m4 : W8.cell? ⟨w7.heap.size, 4, none⟩ = some (.int .i64 x.ct.lost) := HM8.out.cell 4
  have k5 : W8.cell? ⟨w5.heap.size, 5, none⟩ = some (.int .i64 x.ct.unknown) := HK8.out.cell 5
  have m5 : W8.cell? ⟨w7.heap.size, 5, none⟩ = some (.int .i64 x.ct.unknown) := HM8.out.cell 5
  have k6 : W8.cell? ⟨w5.heap.size, 6, none⟩ = some (.int .i64 x.ct.bad) := HK8.out.cell 6
  have m6 : W8.cell? ⟨w7.heap.size, 6, none⟩ = some (.int .i64 x.ct.bad) := HM8.out.cell 6
  have k7 : W8.cell? ⟨w5.heap.size, 7, none⟩ = some (.int .i64 x.ct.spilled) := HK8.out.cell 7
  have m7 : W8.cell? ⟨w7.heap.size, 7, none⟩ = some (.int .i64 x.ct.spilled) := HM8.out.cell 7
  have k8 : W8.cell? ⟨w5.heap.size, 8, none⟩ = some (.int .i64 (held x.lines)) := HK8.out.cell 8
  have m8 : W8.cell? ⟨w7.heap.size, 8, none⟩ = some (.int .i64 (held x.lines)) := HM8.out.cell 8
  have hkl := HK8.out.lt
  have hml := HM8.out.lt
  have HSC := hide (sameCounts_true x.clock x.ct.jobs x.ct.done x.jobs.length x.ct.lost x.ct.unknown x.ct.bad x.ct.spilled (held x.lines) W8)
  go_wp2_with fail
  refine HSC.out.mono ?_
  rintro r w9 ⟨rfl, b9⟩
  have HP9 := hide (HP8.out.below b9)
  have HB9 : Hid (Fr (fun k => own k ≠ 0) w w9) := HB8.out.then_below b9
  clear b9 HSC
  go_wp2_with fail
  go_ret
  refine ⟨rfl, own5, ne, x, N, ?_, HI.out, by omega, HB9.out⟩
  rw [set_self HX.out]
  exact HP9.out

end Go.Proofs.YthloffgebebijaaGreat
