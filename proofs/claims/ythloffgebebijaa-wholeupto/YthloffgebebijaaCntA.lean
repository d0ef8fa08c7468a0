/- CntA: what Counted leans on, in plain numbers: the events count the jobs that are done and the messages that are lost; a run comes to its end, and leaves at most three bytes on a line. No function of the program is named here. -/
import Derived.Test.YthloffgebebijaaExInv
namespace Go.Proofs.Ythloffgebebijaa
open Go.RowKit

/-- How many events of a kind there are. -/
def cnt (k : Int) (es : List Ev) : Int := (es.countP fun e => decide (e.kind = k) : Nat)
theorem cnt_append (k : Int) (a b : List Ev) : cnt k (a ++ b) = cnt k a + cnt k b := by simp [cnt]
theorem cnt_nil (k : Int) : cnt k [] = 0 := rfl
theorem cnt_one (k : Int) (e : Ev) : cnt k [e] = if e.kind = k then 1 else 0 := by
  unfold cnt
  by_cases h : e.kind = k <;> simp [h]

theorem exTake_cnt (c : Cfg) (t : Int) (r : Rdg) (m : Mg) : cnt 2 (exTake c t r m).out = cnt 2 r.out ∧ cnt 3 (exTake c t r m).out - (exTake c t r m).ct.lost = cnt 3 r.out - r.ct.lost := by
  unfold exTake
  split
  · exact ⟨rfl, rfl⟩
  · split
    · refine ⟨?_, ?_⟩
      · simp [cnt]
      · simp only [cnt_append]
        have : cnt 3 [(⟨3, t, -1, m.task, m.tick + (c.tasks.map Tk.due).getD m.task.toNat 0⟩ : Ev)] = 1 := by simp [cnt]
        omega
    · exact ⟨rfl, rfl⟩
theorem foldTake_cnt (c : Cfg) (t : Int) : ∀ (ms : List Mg) (r : Rdg), cnt 2 (ms.foldl (exTake c t) r).out = cnt 2 r.out ∧ cnt 3 (ms.foldl (exTake c t) r).out - (ms.foldl (exTake c t) r).ct.lost = cnt 3 r.out - r.ct.lost
  | [], _ => ⟨rfl, rfl⟩
  | m :: ms, r => by
    obtain ⟨a1, a2⟩ := exTake_cnt c t r m
    obtain ⟨b1, b2⟩ := foldTake_cnt c t ms (exTake c t r m)
    rw [List.foldl_cons]
    exact ⟨b1.trans a1, b2.trans a2⟩
theorem exLine_cnt (c : Cfg) (t : Int) (l : List Fd) (r : Rdg) : cnt 2 (exLine c t l r).2.out = cnt 2 r.out ∧ cnt 3 (exLine c t l r).2.out - (exLine c t l r).2.ct.lost = cnt 3 r.out - r.ct.lost := by
  unfold exLine
  simp only
  rw [exRead_two]
  exact foldTake_cnt c t _ r
theorem exLines_cnt (c : Cfg) (t : Int) : ∀ (ls : List (List Fd)) (r : Rdg), cnt 2 (exLines c t ls r).2.out = cnt 2 r.out ∧ cnt 3 (exLines c t ls r).2.out - (exLines c t ls r).2.ct.lost = cnt 3 r.out - r.ct.lost
  | [], _ => ⟨rfl, rfl⟩
  | l :: ls, r => by
    obtain ⟨a1, a2⟩ := exLine_cnt c t l r
    obtain ⟨b1, b2⟩ := exLines_cnt c t ls (exLine c t l r).2
    simp only [exLines]
    exact ⟨b1.trans a1, b2.trans a2⟩

/-- The reading of a line ends at nothing, or at a Flag with too little behind it. -/
theorem lnRead_end : ∀ (f : Nat) (l : List Fd), l.length ≤ f → (lnRead f l).2.2.length ≤ 3
  | 0, l, h => by simp only [lnRead]; omega
  | f + 1, l, h => by
    rw [lnRead]
    by_cases h1 : l = [] ∨ unfin l = true
    · rw [if_pos h1]
      rcases h1 with rfl | h1
      · simp
      · match l, h1 with
        | a :: r, h1 =>
          simp only [unfin, Bool.and_eq_true, decide_eq_true_eq] at h1
          simp; omega
    · have hp : 0 < l.length := List.length_pos_iff.2 fun e => h1 (.inl e)
      rw [if_neg h1]
      by_cases h2 : isMg l = true
      · rw [if_pos h2]
        exact lnRead_end f _ (by rw [List.length_drop]; omega)
      · rw [if_neg h2]
        exact lnRead_end f _ (by rw [List.length_drop]; omega)
theorem fedBy_whole {t : Int} : ∀ {l : List Fd}, (∀ f ∈ l, f.tick ≤ t) → fedBy t l = l.length
  | [], _ => rfl
  | a :: l, h => by rw [fedBy_cons_le (h a (by simp)), fedBy_whole fun f hf => h f (by simp [hf])]; rfl
theorem fedBy_all {t F : Int} {l : List Fd} (h : LnIn F l) (hF : F ≤ t) : fedBy t l = l.length := fedBy_whole fun f hf => by have := (h.fd f hf).2; omega
theorem exLine_short {c : Cfg} {t F : Int} {l : List Fd} {r : Rdg} (h : LnIn F l) (hF : F ≤ t) : (exLine c t l r).1.length ≤ 3 := by
  rw [exLine_two c t l r h.tk, fedBy_all h hF, List.take_length]
  simp only [List.length_drop]
  have := lnRead_end l.length l (Nat.le_refl _)
  obtain ⟨k, hk, hkl, _⟩ := lnRead_drop l.length l
  rw [hk, List.length_drop] at this ⊢
  omega
theorem exLines_short {c : Cfg} {t F : Int} : ∀ (ls : List (List Fd)) (r : Rdg), (∀ l ∈ ls, LnIn F l) → F ≤ t → ∀ l ∈ (exLines c t ls r).1, l.length ≤ 3
  | [], _, _, _, l, hl => by simp [exLines] at hl
  | x :: ls, r, h, hF, l, hl => by
    simp only [exLines, List.mem_cons] at hl
    rcases hl with rfl | hl
    · exact exLine_short (h x (by simp)) hF
    · exact exLines_short ls _ (fun y hy => h y (by simp [hy])) hF l hl

/-- One round: the clock, the counts, the lines. -/
theorem exRound_cnt {x : Exs} {N : Int} (h : ExIn x N) : (exRound x).1.clock ≤ x.clock + 295 ∧ cnt 2 (exRound x).2 = (exRound x).1.ct.done - x.ct.done ∧ cnt 3 (exRound x).2 = (exRound x).1.ct.lost - x.ct.lost ∧ (x.fed ≤ x.clock → ∀ l ∈ (exRound x).1.lines, l.length ≤ 3) ∧ (exRound x).1.fed = x.fed ∧ (exRound x).1.cfg = x.cfg := by
  obtain ⟨⟨c1, c2⟩, ⟨c3, c4⟩, ⟨c5, c6⟩, ⟨c7, c8⟩, ⟨c9, c10⟩, _, _⟩ := cfgNum h.cfg
  obtain ⟨a1, a2, a3, a4, a5, a6⟩ := exLines_in (t := x.clock) x.lines h.ln h.rd
  obtain ⟨b1, b2⟩ := exLines_cnt x.cfg x.clock x.lines ⟨x.jobs, x.ct, []⟩
  have b3 := exLines_short (c := x.cfg) (t := x.clock) x.lines ⟨x.jobs, x.ct, []⟩ h.ln
  simp only [cnt_nil] at b1 b2
  simp only at a4
  generalize hp : exLines x.cfg x.clock x.lines ⟨x.jobs, x.ct, []⟩ = p at *
  cases hj : p.2.jobs[firstJ p.2.jobs]? with
  | none =>
    have e : exRound x = ({ x with lines := p.1, jobs := p.2.jobs, ct := p.2.ct, clock := x.clock + x.cfg.poll + x.cfg.idle }, p.2.out) := by
      unfold exRound
      simp only [hp, hj]
    rw [e]
    exact ⟨by simp only; omega, by simp only; omega, by simp only; omega, fun hF => b3 hF, rfl, rfl⟩
  | some j =>
    have e : exRound x = ({ x with lines := p.1, jobs := p.2.jobs.eraseIdx (firstJ p.2.jobs), ct := { p.2.ct with done := p.2.ct.done + 1 }, clock := x.clock + x.cfg.poll + x.cfg.sw + j.cost }, p.2.out ++ [⟨1, x.clock + x.cfg.poll, j.number, j.task, j.deadline⟩, ⟨2, x.clock + x.cfg.poll + x.cfg.sw + j.cost, j.number, j.task, j.deadline⟩]) := by
      unfold exRound
      simp only [hp, hj]
    rw [e]
    obtain ⟨_, _, j0, j1⟩ := a3.jb j (List.mem_of_getElem? hj)
    have k2 : cnt 2 [(⟨1, x.clock + x.cfg.poll, j.number, j.task, j.deadline⟩ : Ev), ⟨2, x.clock + x.cfg.poll + x.cfg.sw + j.cost, j.number, j.task, j.deadline⟩] = 1 := by simp [cnt]
    have k3 : cnt 3 [(⟨1, x.clock + x.cfg.poll, j.number, j.task, j.deadline⟩ : Ev), ⟨2, x.clock + x.cfg.poll + x.cfg.sw + j.cost, j.number, j.task, j.deadline⟩] = 0 := by simp [cnt]
    exact ⟨by simp only; omega, by simp only [cnt_append]; omega, by simp only [cnt_append]; omega, fun hF => b3 hF, rfl, rfl⟩

theorem exRun_cnt (u : Int) : ∀ (f : Nat) {x : Exs} {N : Int}, ExIn x N → (exRun u f x).1.clock ≤ max x.clock (u + 294) ∧ x.clock ≤ (exRun u f x).1.clock ∧ cnt 2 (exRun u f x).2 = (exRun u f x).1.ct.done - x.ct.done ∧ cnt 3 (exRun u f x).2 = (exRun u f x).1.ct.lost - x.ct.lost ∧ ((exRun u f x).2.length : Int) ≤ 34 * ((exRun u f x).1.clock - x.clock) ∧ (exRun u f x).1.fed = x.fed ∧ (exRun u f x).1.cfg = x.cfg
  | 0, x, _, _ => ⟨by simp only [exRun]; omega, by simp [exRun], by simp [exRun, cnt_nil], by simp [exRun, cnt_nil], by simp [exRun], rfl, rfl⟩
  | f + 1, x, N, h => by
    unfold exRun
    split
    · rename_i hc
      obtain ⟨r1, r2, r3⟩ := exRound_in h hc.2
      obtain ⟨s1, s2, s3, _, s5, s6⟩ := exRound_cnt h
      obtain ⟨t1, t2, t3, t4, t5, t6, t7⟩ := exRun_cnt u f r1
      refine ⟨by simp only; omega, by simp only; omega, by simp only [cnt_append]; omega, by simp only [cnt_append]; omega, by simp only [List.length_append]; omega, t6.trans s5, t7.trans s6⟩
    · exact ⟨by simp only; omega, by simp, by simp [cnt_nil], by simp [cnt_nil], by simp, rfl, rfl⟩
/-- With fuel enough a run comes to its end. -/
theorem exRun_end (u : Int) : ∀ (f : Nat) {x : Exs} {N : Int}, ExIn x N → min u 3000 - x.clock ≤ (f : Int) → min u 3000 ≤ (exRun u f x).1.clock
  | 0, x, _, _, hf => by simp only [exRun]; omega
  | f + 1, x, N, h, hf => by
    unfold exRun
    split
    · rename_i hc
      obtain ⟨r1, r2, _⟩ := exRound_in h hc.2
      exact exRun_end u f r1 (by omega)
    · rename_i hc
      simp only
      omega
/-- At the end at most three bytes are left on a line. -/
theorem exRun_short : ∀ (f : Nat) {x : Exs} {N : Int}, ExIn x N → ((∀ l ∈ x.lines, l.length ≤ 3) ∨ x.clock < 2999) → ((∀ l ∈ (exRun 3000 f x).1.lines, l.length ≤ 3) ∨ (exRun 3000 f x).1.clock < 2999)
  | 0, _, _, _, hp => hp
  | f + 1, x, N, h, hp => by
    unfold exRun
    split
    · rename_i hc
      obtain ⟨r1, _, _⟩ := exRound_in h hc.2
      obtain ⟨s1, _, _, s4, _⟩ := exRound_cnt h
      refine exRun_short f r1 ?_
      have := h.fe1
      by_cases hk : x.fed ≤ x.clock
      · exact .inl (s4 hk)
      · right; omega
    · exact hp
theorem held_short : ∀ (ls : List (List Fd)), (∀ l ∈ ls, l.length ≤ 3) → held ls ≤ 3 * ls.length
  | [], _ => by simp [held]
  | l :: ls, h => by
    have h1 := h l (by simp)
    have h2 := held_short ls (fun x hx => h x (by simp [hx]))
    rw [held_cons]; simp; omega
theorem held_le : ∀ (ls : List (List Fd)), (∀ l ∈ ls, l.length ≤ 32) → held ls ≤ 32 * ls.length
  | [], _ => by simp [held]
  | l :: ls, h => by
    have h1 := h l (by simp)
    have h2 := held_le ls (fun x hx => h x (by simp [hx]))
    rw [held_cons]; simp; omega

end Go.Proofs.Ythloffgebebijaa
