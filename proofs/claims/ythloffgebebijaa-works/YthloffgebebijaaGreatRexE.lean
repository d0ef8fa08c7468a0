/- RexE: what stands while the reference's round goes on. -/
import Derived.Test.YthloffgebebijaaGreatRexK
import Derived.Test.YthloffgebebijaaGreatRndE
namespace Go.Proofs.YthloffgebebijaaGreat
open Go.RowKit

theorem exLine_pre (c : Cfg) (t : Int) (l : List Fd) (o : List Ev) (r : Rdg) : exLine c t l (preOut o r) = ((exLine c t l r).1, preOut o (exLine c t l r).2) := by
  unfold exLine
  rw [exRead_out]
theorem RdB.of {c : Cfg} {M : Int} {r : Rdg} (h : RdIn c M r) (hM : M ≤ 800000000000000) : RdB c 40 ⟨r.jobs, r.ct, []⟩ := by
  obtain ⟨d1, _, _, d4, d5, d6, d7, d8, d9⟩ := h
  exact ⟨d1, d8, by simp only; omega, d7, by simp only; omega, d6, by simp only; omega, by simp only; omega, by simp only; omega, by simp⟩
/-- The state when i lines have been read. -/
def midEx (x : Exs) (i : Nat) : Exs :=
  { x with lines := (exLines x.cfg x.clock (x.lines.take i) ⟨x.jobs, x.ct, []⟩).1 ++ x.lines.drop i, jobs := (exLines x.cfg x.clock (x.lines.take i) ⟨x.jobs, x.ct, []⟩).2.jobs, ct := (exLines x.cfg x.clock (x.lines.take i) ⟨x.jobs, x.ct, []⟩).2.ct }
def midOut (x : Exs) (i : Nat) : List Ev := (exLines x.cfg x.clock (x.lines.take i) ⟨x.jobs, x.ct, []⟩).2.out
theorem midEx_zero (x : Exs) : midEx x 0 = x := by simp [midEx, exLines]
theorem midOut_zero (x : Exs) : midOut x 0 = [] := by simp [midOut, exLines]
section
variable {x : Exs} {N : Int} {i : Nat} {l : List Fd}
theorem mid_in (h : ExIn x N) (i : Nat) : ((exLines x.cfg x.clock (x.lines.take i) ⟨x.jobs, x.ct, []⟩).1.length = (x.lines.take i).length) ∧ RdB x.cfg 40 ⟨(midEx x i).jobs, (midEx x i).ct, []⟩ ∧ (midOut x i).length ≤ 40 ∧ 0 ≤ (midEx x i).ct.done ∧ (midEx x i).ct.done ≤ 800000 ∧ (midEx x i).jobs.length ≤ 40 ∧ (∀ j ∈ (midEx x i).jobs, 1 ≤ j.cost ∧ j.cost ≤ 255) := by
  obtain ⟨a1, a2, a3, a4, a5, a6⟩ := exLines_in (t := x.clock) (x.lines.take i) (fun l hl => h.ln l (List.mem_of_mem_take hl)) h.rd
  have hle : held (x.lines.take i) ≤ held x.lines := by
    have := held_append (x.lines.take i) (x.lines.drop i)
    rw [List.take_append_drop] at this
    have := held_nonneg (x.lines.drop i)
    omega
  have hnn := held_nonneg (exLines x.cfg x.clock (x.lines.take i) ⟨x.jobs, x.ct, []⟩).1
  have hsp := h.read
  have hhl := held_le x.lines fun l hl => (h.ln l hl).len
  obtain ⟨⟨c1, c2⟩, ⟨c3, c4⟩, -⟩ := cfgNum h.cfg
  have hnl := h.nl
  have hd0 := h.rd.d0
  have hdn := h.rd.dn
  have ht := h.rd.tot
  have b1 := h.rd.l0
  have b2 := h.rd.u0
  have b3 := h.rd.b0
  have hl0 := held_nonneg x.lines
  have hnj := a3.nj
  simp only at hd0 hdn ht b1 b2 b3 a4 a6
  refine ⟨a1, ?_, ?_, ?_, ?_, ?_, fun j hj => ?_⟩
  · exact RdB.of a3 (by omega)
  · show (exLines x.cfg x.clock (x.lines.take i) ⟨x.jobs, x.ct, []⟩).2.out.length ≤ 40
    rw [List.length_take] at a6
    simp only [List.length_nil] at a6
    omega
  · show 0 ≤ (exLines x.cfg x.clock (x.lines.take i) ⟨x.jobs, x.ct, []⟩).2.ct.done
    rw [a4]; exact hd0
  · show (exLines x.cfg x.clock (x.lines.take i) ⟨x.jobs, x.ct, []⟩).2.ct.done ≤ 800000
    rw [a4]
    omega
  · show (exLines x.cfg x.clock (x.lines.take i) ⟨x.jobs, x.ct, []⟩).2.jobs.length ≤ 40
    omega
  · exact ⟨(a3.jb j hj).2.2.1, (a3.jb j hj).2.2.2⟩
theorem mid_line (h : ExIn x N) (hl : x.lines[i]? = some l) : (midEx x i).lines[i]? = some l := by
  have h1 := (mid_in h i).1
  have hil := lt_of_get hl
  unfold midEx
  simp only
  rw [List.getElem?_append_right (by rw [h1, List.length_take]; omega), h1, List.length_take, Nat.min_eq_left (by omega), Nat.sub_self, List.getElem?_drop, Nat.add_zero]
  exact hl
theorem mid_succ (h : ExIn x N) (hl : x.lines[i]? = some l) :
    midEx x (i + 1) = { midEx x i with lines := (midEx x i).lines.set i (exLine x.cfg x.clock l ⟨(midEx x i).jobs, (midEx x i).ct, []⟩).1, jobs := (exLine x.cfg x.clock l ⟨(midEx x i).jobs, (midEx x i).ct, []⟩).2.jobs, ct := (exLine x.cfg x.clock l ⟨(midEx x i).jobs, (midEx x i).ct, []⟩).2.ct } ∧ midOut x (i + 1) = midOut x i ++ (exLine x.cfg x.clock l ⟨(midEx x i).jobs, (midEx x i).ct, []⟩).2.out := by
  have h1 := (mid_in h i).1
  have hil := lt_of_get hl
  have ht : x.lines.take (i + 1) = x.lines.take i ++ [l] := take_snoc hl
  have hr : (exLines x.cfg x.clock (x.lines.take i) ⟨x.jobs, x.ct, []⟩).2 = preOut (midOut x i) ⟨(midEx x i).jobs, (midEx x i).ct, []⟩ := by
    simp [preOut, midOut, midEx]
  have hs := exLines_snoc x.cfg x.clock (x.lines.take i) l ⟨x.jobs, x.ct, []⟩
  rw [hr, exLine_pre] at hs
  have hset : (midEx x i).lines.set i (exLine x.cfg x.clock l ⟨(midEx x i).jobs, (midEx x i).ct, []⟩).1 = (exLines x.cfg x.clock (x.lines.take i) ⟨x.jobs, x.ct, []⟩).1 ++ [(exLine x.cfg x.clock l ⟨(midEx x i).jobs, (midEx x i).ct, []⟩).1] ++ x.lines.drop (i + 1) := by
    show ((exLines x.cfg x.clock (x.lines.take i) ⟨x.jobs, x.ct, []⟩).1 ++ x.lines.drop i).set i _ = _
    rw [List.set_append_right _ _ (by rw [h1, List.length_take]; omega), h1, List.length_take, Nat.min_eq_left (by omega), Nat.sub_self, List.append_assoc]
    congr 1
    rw [List.drop_eq_getElem_cons hil, List.set_cons_zero]
    rfl
  constructor
  · rw [hset]
    conv => lhs; unfold midEx
    rw [ht, hs]
    rfl
  · conv => lhs; unfold midOut
    rw [ht, hs]
    rfl
theorem mid_all (x : Exs) : (midEx x x.lines.length).lines = (exLines x.cfg x.clock x.lines ⟨x.jobs, x.ct, []⟩).1 ∧ (⟨(midEx x x.lines.length).jobs, (midEx x x.lines.length).ct, midOut x x.lines.length⟩ : Rdg) = (exLines x.cfg x.clock x.lines ⟨x.jobs, x.ct, []⟩).2 := by
  unfold midEx midOut
  rw [List.take_length, List.drop_length]
  simp
end

/-- What stands while the lines are read. -/
structure Rn2 (w wx : World) (S T : Nat → Prop) (base Y L : Nat) (tv : Value) (x : Exs) (out : List Ev) (ov : Value) (S' : Nat → Prop) (jv : Value) (lvs : List Value) : Prop where
  ev : EvP wx w.heap.size ov out
  rc : RecP wx S' T base Y L x tv jv lvs
  sub : ∀ q, S' q → (S q ∨ w.heap.size ≤ q) ∧ q < wx.heap.size
  sep : ∀ q, ov.ownBlock = some q → ¬ S' q
  fr : Fr S w wx
section
variable {w wx w5 w6 : World} {S T S' : Nat → Prop} {base Y L : Nat} {tv ov ev jv : Value} {x y : Exs} {out out2 : List Ev} {lvs : List Value}
theorem Rn2.below (p : Rn2 w wx S T base Y L tv x out ov S' jv lvs) (hb : Below wx.heap.size wx w5) : Rn2 w w5 S T base Y L tv x out ov S' jv lvs :=
  ⟨p.ev.later hb, p.rc.below (fun q e => (p.sub q e).2) hb, fun q e => ⟨(p.sub q e).1, Nat.lt_of_lt_of_le (p.sub q e).2 hb.size⟩, p.sep, p.fr.then_below hb⟩
/-- A line more: what read leaves, then the append. -/
theorem Rn2.more (hT : ∀ q, T q → q < w.heap.size) (p : Rn2 w wx S T base Y L tv x out ov S' jv lvs) {S'' : Nat → Prop} {jv' : Value} {lvs' : List Value} (_he : EvP w5 wx.heap.size ev out2) (hr : RecP w5 S'' T base Y L y tv jv' lvs') (hs : ∀ q, S'' q → (S' q ∨ wx.heap.size ≤ q) ∧ q < w5.heap.size) (_hn : ∀ q, ev.ownBlock = some q → ¬ S'' q) (hf : Fr S' wx w5) {v6 : Value} (hg : w5.grownBy w6 ov.ownBlock) (h6 : EvP w6 w.heap.size v6 (out ++ out2)) (ho : v6.ownBlock = ov.ownBlock ∨ v6.ownBlock = some w5.heap.size) : Rn2 w w6 S T base Y L tv y (out ++ out2) v6 S'' jv' lvs' := by
  have hz := p.fr.size
  have hz5 := hf.size
  have hz6 := hg.size
  have hol : ∀ q, ov.ownBlock = some q → w.heap.size ≤ q ∧ q < wx.heap.size := fun q e => ownsRow_lt p.ev e
  have hno : ∀ q, ov.ownBlock = some q → ¬ S'' q := fun q e e' => by
    have h1 := (hs q e').1
    have h2 := hol q e
    rcases h1 with h1 | h1
    · exact p.sep q e h1
    · omega
  refine ⟨h6, hr.same (fun k e => hg.block k ?_ fun e' => ?_) hg.size, fun q e => ⟨?_, ?_⟩, fun q e e' => ?_, ?_⟩
  · exact e.elim (fun e => (hs k e).2) fun e => (hr.tl k e).1
  · rcases e with e | e
    · exact hno k e'.symm e
    · have := hT k e; have := hol k e'.symm; omega
  · rcases (hs q e).1 with h1 | h1
    · exact (p.sub q h1).1
    · exact .inr (by omega)
  · have := (hs q e).2; omega
  · rcases ho with ho | ho
    · rw [ho] at e; exact hno q e e'
    · rw [ho] at e
      simp only [Option.some.injEq] at e
      have := (hs q e').2
      omega
  · refine (p.fr.trans hf fun q hq e => ?_).trans (Fr.of_grown (X := fun q => ov.ownBlock = some q) hg fun q e _ => e) fun q hq e => ?_
    · rcases (p.sub q e).1 with h1 | h1
      · exact h1
      · omega
    · have := hol q e; omega
theorem Rn2.outs (hT : ∀ q, T q → q < w.heap.size) (p : Rn2 w wx S T base Y L tv x out ov S' jv lvs) (hb : Below wx.heap.size wx w5) {v6 : Value} (hg : w5.grownBy w6 ov.ownBlock) (h6 : EvP w6 w.heap.size v6 out2) (ho : v6.ownBlock = ov.ownBlock ∨ v6.ownBlock = some w5.heap.size) : Rn2 w w6 S T base Y L tv x out2 v6 S' jv lvs := by
  have p := p.below hb
  have hz := p.fr.size
  have hol : ∀ q, ov.ownBlock = some q → w.heap.size ≤ q ∧ q < w5.heap.size := fun q e => ownsRow_lt p.ev e
  refine ⟨h6, p.rc.same (fun k e => hg.block k ?_ fun e' => ?_) hg.size, fun q e => ⟨(p.sub q e).1, Nat.lt_of_lt_of_le (p.sub q e).2 hg.size⟩, fun q e e' => ?_, p.fr.trans (Fr.of_grown (X := fun q => ov.ownBlock = some q) hg fun q e _ => e) fun q hq e => ?_⟩
  · exact e.elim (fun e => (p.sub k e).2) fun e => (p.rc.tl k e).1
  · rcases e with e | e
    · exact p.sep k e'.symm e
    · have := hT k e; have := hol k e'.symm; omega
  · rcases ho with ho | ho
    · rw [ho] at e; exact p.sep q e e'
    · rw [ho] at e
      simp only [Option.some.injEq] at e
      have := (p.sub q e').2
      omega
  · have := hol q e; omega
theorem Rn2.cell (hSY : S Y) (p : Rn2 w wx S T base Y L tv x out ov S' jv lvs) (o : Nat) (u : Value) {clock fed : Int} {ct : Ct} (he : (rcs x.cfg tv (.slice (some ⟨L, 0, none⟩) lvs.length lvs.length) jv x.clock x.fed x.ct).setIfInBounds o u = rcs x.cfg tv (.slice (some ⟨L, 0, none⟩) lvs.length lvs.length) jv clock fed ct) :
    Rn2 w (wx.setCell ⟨Y, o, none⟩ u) S T base Y L tv { x with clock := clock, fed := fed, ct := ct } out ov S' jv lvs :=
  ⟨ownsRow_same p.ev fun q e => heap_setCell_other wx ⟨Y, o, none⟩ q _ (fun e' => ownsRow_ne_blk p.ev p.rc.blk (by decide) (by rw [e, e'])), p.rc.cell o u he, fun q e => by simpa using p.sub q e, p.sep, p.fr.trans (Fr.set (X := S) wx Y o u hSY) fun _ _ e => e⟩
theorem Rn2.jobs (hSY : S Y) (p : Rn2 w wx S T base Y L tv x out ov S' jv lvs) (hb : Below wx.heap.size wx w5) {jv' : Value} {js : List Jb} (hr : RJobP w5 wx.heap.size jv' js) (hbase : base ≤ wx.heap.size) :
    Rn2 w (w5.setCell ⟨Y, 7, none⟩ jv') S T base Y L tv { x with jobs := js } out ov (fun q => (S' q ∨ wx.heap.size ≤ q) ∧ q < w5.heap.size) jv' lvs := by
  have hz : (w5.setCell ⟨Y, 7, none⟩ jv').heap.size = w5.heap.size := by simp
  have hb5 := hb.size
  have hzw := p.fr.size
  have hrc := p.rc.jobs (jv' := jv') (js := js) (Fr.of_below hb) (ownsRow_lower' hr hbase) (.inr fun k e => (ownsRow_lt hr e).1)
  refine ⟨ownsRow_same p.ev fun q e => ?_, hrc.mono (fun q hq e => ⟨e, by rw [← hz]; exact hq⟩) fun q e e' => (hrc.tl q e).2 e'.1, fun q e => ⟨?_, by rw [hz]; exact e.2⟩, fun q e e' => ?_, (p.fr.then_below hb).trans (Fr.set (X := S) w5 Y 7 jv' hSY) fun _ _ e => e⟩
  · rw [heap_setCell_other w5 ⟨Y, 7, none⟩ q _ (fun e' => ownsRow_ne_blk p.ev p.rc.blk (by decide) (by rw [e, e']))]
    exact hb.block q (ownsRow_lt p.ev e).2
  · rcases e.1 with e | e
    · exact (p.sub q e).1
    · exact .inr (by omega)
  · rcases e'.1 with e' | e'
    · exact p.sep q e e'
    · have := (ownsRow_lt p.ev e).2; omega
end

theorem round_none (x : Exs) (hj : (midEx x x.lines.length).jobs = []) : exRound x = ({ midEx x x.lines.length with clock := x.clock + x.cfg.poll + x.cfg.idle }, midOut x x.lines.length) := by
  obtain ⟨h1, h2⟩ := mid_all x
  unfold exRound
  simp only
  rw [← h2, ← h1]
  simp only
  rw [hj]
  rfl
theorem round_some (x : Exs) {j : Jb} (hj : (midEx x x.lines.length).jobs[firstJ (midEx x x.lines.length).jobs]? = some j) : exRound x = ({ midEx x x.lines.length with jobs := (midEx x x.lines.length).jobs.eraseIdx (firstJ (midEx x x.lines.length).jobs), ct := { (midEx x x.lines.length).ct with done := (midEx x x.lines.length).ct.done + 1 }, clock := x.clock + x.cfg.poll + x.cfg.sw + j.cost }, midOut x x.lines.length ++ [⟨1, x.clock + x.cfg.poll, j.number, j.task, j.deadline⟩, ⟨2, x.clock + x.cfg.poll + x.cfg.sw + j.cost, j.number, j.task, j.deadline⟩]) := by
  obtain ⟨h1, h2⟩ := mid_all x
  unfold exRound
  simp only
  rw [← h2, ← h1]
  simp only
  rw [hj]
  rfl

end Go.Proofs.YthloffgebebijaaGreat
