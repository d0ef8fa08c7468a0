/- PieA: what Pieces leans on, in plain numbers: a run in one go is the same run round by round; bytes fed at once are the same bytes fed one by one; when an executive was fed last has no hand in what it does. No function of the program is named here. -/
import Derived.Test.YthloffgebebijaaPlainA
namespace Go.Proofs.Ythloffgebebijaa
open Go.RowKit

/-- The same but for when it was fed last. -/
def alike (x y : Exs) : Prop := y = { x with fed := y.fed }
theorem alike.refl (x : Exs) : alike x x := rfl
theorem alike.parts {x y : Exs} (h : alike x y) : y.cfg = x.cfg ∧ y.lines = x.lines ∧ y.jobs = x.jobs ∧ y.clock = x.clock ∧ y.ct = x.ct := by
  rw [h]; exact ⟨rfl, rfl, rfl, rfl, rfl⟩
theorem alike.of {x y : Exs} (h1 : y.cfg = x.cfg) (h2 : y.lines = x.lines) (h3 : y.jobs = x.jobs) (h4 : y.clock = x.clock) (h5 : y.ct = x.ct) : alike x y := by
  cases x; cases y
  simp only at h1 h2 h3 h4 h5
  subst h1; subst h2; subst h3; subst h4; subst h5
  rfl

theorem exRound_fed (x : Exs) (f : Int) : exRound { x with fed := f } = ({ (exRound x).1 with fed := f }, (exRound x).2) := by
  unfold exRound
  simp only
  split <;> rfl
theorem exRound_alike {x y : Exs} (h : alike x y) : alike (exRound x).1 (exRound y).1 ∧ (exRound y).2 = (exRound x).2 := by
  have e := exRound_fed x y.fed
  rw [← h] at e
  rw [e]
  exact ⟨rfl, rfl⟩
theorem exRun_alike (u : Int) : ∀ (f : Nat) {x y : Exs}, alike x y → alike (exRun u f x).1 (exRun u f y).1 ∧ (exRun u f y).2 = (exRun u f x).2
  | 0, _, _, h => ⟨h, rfl⟩
  | f + 1, x, y, h => by
    have hp := h.parts
    unfold exRun
    rw [hp.2.2.2.1]
    split
    · obtain ⟨h1, h2⟩ := exRound_alike h
      obtain ⟨h3, h4⟩ := exRun_alike u f h1
      exact ⟨h3, by simp only [h2, h4]⟩
    · exact ⟨h, rfl⟩

/-- With fuel enough more of it makes no odds. -/
theorem exRun_fuel (u : Int) : ∀ (f g : Nat) {x : Exs} {N : Int}, ExIn x N → min u 3000 - x.clock ≤ (f : Int) → min u 3000 - x.clock ≤ (g : Int) → exRun u f x = exRun u g x
  | 0, g, x, N, h, hf, hg => by
    have : ¬ (x.clock < u ∧ x.clock < 3000) := by omega
    cases g with
    | zero => rfl
    | succ g => simp only [exRun, if_neg this]
  | f + 1, 0, x, N, h, hf, hg => by
    have : ¬ (x.clock < u ∧ x.clock < 3000) := by omega
    simp only [exRun, if_neg this]
  | f + 1, g + 1, x, N, h, hf, hg => by
    unfold exRun
    split
    · rename_i hc
      obtain ⟨r1, r2, _⟩ := exRound_in h hc.2
      have e := exRun_fuel u f g r1 (by omega) (by omega)
      simp only [e]
    · rfl
/-- A run to the next tick is one round. -/
theorem exRun_one {x : Exs} {N : Int} (h : ExIn x N) (hc : x.clock < 3000) : exRun (x.clock + 1) 3000 x = exRound x := by
  obtain ⟨r1, r2, _⟩ := exRound_in h hc
  have h1 : exRun (x.clock + 1) 3000 x = ((exRun (x.clock + 1) 2999 (exRound x).1).1, (exRound x).2 ++ (exRun (x.clock + 1) 2999 (exRound x).1).2) := by
    rw [exRun, if_pos ⟨by omega, hc⟩]
  have h2 : exRun (x.clock + 1) 2999 (exRound x).1 = ((exRound x).1, []) := by
    rw [exRun, if_neg (by omega)]
  rw [h1, h2]
  simp
/-- A run, its first round apart. -/
theorem exRun_first {u : Int} {x : Exs} {N : Int} (h : ExIn x N) (hu : x.clock < u) (hc : x.clock < 3000) : exRun u 3000 x = ((exRun u 3000 (exRound x).1).1, (exRound x).2 ++ (exRun u 3000 (exRound x).1).2) := by
  obtain ⟨r1, r2, _⟩ := exRound_in h hc
  have h0 := h.ck0
  have h1 : exRun u 3000 x = ((exRun u 2999 (exRound x).1).1, (exRound x).2 ++ (exRun u 2999 (exRound x).1).2) := by
    rw [exRun, if_pos ⟨hu, hc⟩]
  rw [h1, exRun_fuel u 2999 3000 r1 (by omega) (by omega)]
theorem exRun_none {u : Int} {x : Exs} (h : u ≤ x.clock) : exRun u 3000 x = (x, []) := by
  rw [exRun, if_neg (by omega)]

/-- Bytes that are fed at once, and one by one. -/
theorem exFeed_cons {x : Exs} {n t b : Int} {bs : List Int} (hn : 0 ≤ n ∧ n < x.cfg.lines) (hl : (x.lines.length : Int) = x.cfg.lines) (ht : x.clock ≤ t ∧ x.fed ≤ t ∧ t < 1000) :
    alike (exFeed x n t (b :: bs)).1 (exFeed (exFeed x n t [b]).1 n t bs).1 := by
  have hlt : n.toNat < x.lines.length := by omega
  obtain ⟨l, hg⟩ := get_of_lt hlt
  have hgd : x.lines.getD n.toNat [] = l := by rw [List.getD_eq_getElem?_getD, hg]; rfl
  have e1 : exFeed x n t (b :: bs) = ({ x with lines := x.lines.set n.toNat (lineFeed t l (b :: bs)).1, fed := t, ct := { x.ct with spilled := IntKind.i64.wrap (x.ct.spilled + (lineFeed t l (b :: bs)).2) } }, 0) := by
    unfold exFeed
    rw [if_pos (by omega), if_neg (by omega)]
    simp only [hgd]
  have e2 : exFeed x n t [b] = ({ x with lines := x.lines.set n.toNat (lineFeed t l [b]).1, fed := t, ct := { x.ct with spilled := IntKind.i64.wrap (x.ct.spilled + (lineFeed t l [b]).2) } }, 0) := by
    unfold exFeed
    rw [if_pos (by omega), if_neg (by omega)]
    simp only [hgd]
  have hgd2 : (x.lines.set n.toNat (lineFeed t l [b]).1).getD n.toNat [] = (lineFeed t l [b]).1 := by
    rw [List.getD_eq_getElem?_getD, List.getElem?_set]
    simp [hlt]
  have e3 : exFeed (exFeed x n t [b]).1 n t bs = ({ x with lines := (x.lines.set n.toNat (lineFeed t l [b]).1).set n.toNat (lineFeed t (lineFeed t l [b]).1 bs).1, fed := t, ct := { x.ct with spilled := IntKind.i64.wrap (IntKind.i64.wrap (x.ct.spilled + (lineFeed t l [b]).2) + (lineFeed t (lineFeed t l [b]).1 bs).2) } }, 0) := by
    rw [e2]
    unfold exFeed
    simp only
    rw [if_pos (by omega), if_neg (by omega)]
    simp only [hgd2]
  have hfold : lineFeed t l (b :: bs) = ((lineFeed t (lineFeed t l [b]).1 bs).1, (lineFeed t l [b]).2 + (lineFeed t (lineFeed t l [b]).1 bs).2) := by
    have hs : ∀ (bs : List Int) (l : List Fd) (s : Int), bs.foldl (lineAdd t) (l, s) = ((bs.foldl (lineAdd t) (l, 0)).1, s + (bs.foldl (lineAdd t) (l, 0)).2) := by
      intro bs
      induction bs with
      | nil => intro l s; simp
      | cons c bs ih =>
        intro l s
        simp only [List.foldl_cons]
        by_cases hl : l.length < 32
        · rw [lineAdd, if_pos hl, lineAdd, if_pos hl]
          exact ih _ s
        · rw [lineAdd, if_neg hl, lineAdd, if_neg hl]
          simp only
          rw [ih l (s + 1), ih l (0 + 1)]
          simp only [Prod.mk.injEq, true_and]
          omega
    unfold lineFeed
    simp only [List.foldl_cons, List.foldl_nil]
    have h := hs bs (lineAdd t (l, 0) b).1 (lineAdd t (l, 0) b).2
    exact h
  rw [e3, e1]
  refine alike.of rfl ?_ rfl rfl ?_
  · simp only [List.set_set, hfold]
  · simp only [hfold]
    rw [wrap_add_left, Int.add_assoc]
/-- Feed is the same of two that are alike. -/
theorem exFeed_alike {x y : Exs} {n t : Int} {bs : List Int} (h : alike x y) (hn : 0 ≤ n ∧ n < x.cfg.lines) (hx : x.clock ≤ t ∧ x.fed ≤ t ∧ t < 1000) (hy : y.fed ≤ t) : alike (exFeed x n t bs).1 (exFeed y n t bs).1 := by
  obtain ⟨p1, p2, p3, p4, p5⟩ := h.parts
  unfold exFeed
  rw [if_pos (by omega), if_neg (by omega), if_pos (by rw [p1]; omega), if_neg (by rw [p4]; omega)]
  exact alike.of p1 (by simp only [p2]) p3 p4 (by simp only [p2, p5])

end Go.Proofs.Ythloffgebebijaa
