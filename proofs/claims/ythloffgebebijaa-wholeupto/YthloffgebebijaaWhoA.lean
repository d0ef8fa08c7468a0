/- WhoA: what Whole leans on, in plain numbers: jobs are done one by one, each to its end; of two that were begun the first one had to be done first, if the second had come. No function of the program is named here. -/
import Derived.Test.YthloffgebebijaaCntA
namespace Go.Proofs.Ythloffgebebijaa
open Go.RowKit

/-- How long a task's jobs may take. -/
def dueOf (c : Cfg) (k : Int) : Int := (c.tasks.map Tk.due).getD k.toNat 0
theorem dueOf_in {c : Cfg} (h : cfgOk c = true) {k : Int} (_h0 : 0 ≤ k) (h1 : k < c.tasks.length) : 1 ≤ dueOf c k ∧ dueOf c k ≤ 400 := by
  obtain ⟨_, _, _, _, _, _, hd⟩ := cfgNum h
  obtain ⟨t, ht⟩ := get_of_lt (l := c.tasks) (k := k.toNat) (by omega)
  have := hd t (List.mem_of_getElem? ht)
  have e : dueOf c k = t.due := by simp [dueOf, ht]
  rw [e]
  exact this

/-- Events, one by one: from the end e to the end e'. -/
inductive WfE (c : Cfg) : Int → List Ev → Int → Prop where
  | nil (e : Int) : WfE c e [] e
  | lost {e e' : Int} {d : Ev} {es : List Ev} : d.kind = 3 → e ≤ d.tick → d.job = -1 → WfE c e es e' → WfE c e (d :: es) e'
  | pair {e e' : Int} {b d : Ev} {es : List Ev} : b.kind = 1 → e + c.poll ≤ b.tick → d.kind = 2 → d.job = b.job → d.task = b.task → d.deadline = b.deadline → b.tick + c.sw < d.tick → WfE c d.tick es e' → WfE c e (b :: d :: es) e'
theorem WfE.append {c : Cfg} {e e' e'' : Int} {a b : List Ev} (h : WfE c e a e') (k : WfE c e' b e'') : WfE c e (a ++ b) e'' := by
  induction h with
  | nil _ => exact k
  | lost h1 h2 h3 _ ih => exact .lost h1 h2 h3 (ih k)
  | pair h1 h2 h3 h4 h5 h6 h7 _ ih => exact .pair h1 h2 h3 h4 h5 h6 h7 (ih k)
theorem WfE.losts {c : Cfg} {e : Int} : ∀ {ds : List Ev}, (∀ d ∈ ds, d.kind = 3 ∧ e ≤ d.tick ∧ d.job = -1) → WfE c e ds e
  | [], _ => .nil e
  | d :: ds, h => .lost (h d (by simp)).1 (h d (by simp)).2.1 (h d (by simp)).2.2 (WfE.losts fun x hx => h x (by simp [hx]))

/-- How many bytes of a line were fed by the tick t. -/
def lo (t : Int) (l : List Fd) : Nat := l.countP fun f => decide (f.tick ≤ t)
theorem lo_sub {t : Int} {l l' : List Fd} (h : l'.Sublist l) : lo t l' ≤ lo t l := h.countP_le
/-- A message that is read comes behind each tick by which at most three bytes were fed. -/
theorem lnRead_late {T : Int} : ∀ (f : Nat) (l : List Fd), Ticks l → lo T l ≤ 3 → ∀ m ∈ (lnRead f l).1, T < m.tick
  | 0, l, _, _, m, hm => by simp [lnRead] at hm
  | f + 1, l, ht, hl, m, hm => by
    rw [lnRead] at hm
    by_cases h1 : l = [] ∨ unfin l = true
    · rw [if_pos h1] at hm; simp at hm
    · rw [if_neg h1] at hm
      by_cases h2 : isMg l = true
      · rw [if_pos h2] at hm
        rcases List.mem_cons.1 hm with rfl | hm
        · match l, h2 with
          | a :: p :: q :: z :: r, h2 =>
            show T < z.tick
            refine Int.not_le.1 fun hz => ?_
            have ha : a.tick ≤ z.tick := (List.pairwise_cons.1 ht).1 z (by simp)
            have ht1 := (List.pairwise_cons.1 ht).2
            have hp : p.tick ≤ z.tick := (List.pairwise_cons.1 ht1).1 z (by simp)
            have ht2 := (List.pairwise_cons.1 ht1).2
            have hq : q.tick ≤ z.tick := (List.pairwise_cons.1 ht2).1 z (by simp)
            unfold lo at hl
            rw [List.countP_cons_of_pos (by simp; omega), List.countP_cons_of_pos (by simp; omega), List.countP_cons_of_pos (by simp; omega), List.countP_cons_of_pos (by simp; omega)] at hl
            omega
        · exact lnRead_late f _ (ht.sublist (List.drop_sublist _ _)) (Nat.le_trans (lo_sub (List.drop_sublist _ _)) hl) m hm
      · rw [if_neg h2] at hm
        exact lnRead_late f _ (ht.sublist (List.drop_sublist _ _)) (Nat.le_trans (lo_sub (List.drop_sublist _ _)) hl) m hm
/-- A message's tick is that of one of the line's bytes. -/
theorem lnRead_tick {t : Int} : ∀ (f : Nat) (l : List Fd), (∀ x ∈ l, x.tick ≤ t) → ∀ m ∈ (lnRead f l).1, m.tick ≤ t
  | 0, l, _, m, hm => by simp [lnRead] at hm
  | f + 1, l, h, m, hm => by
    rw [lnRead] at hm
    by_cases h1 : l = [] ∨ unfin l = true
    · rw [if_pos h1] at hm; simp at hm
    · rw [if_neg h1] at hm
      by_cases h2 : isMg l = true
      · rw [if_pos h2] at hm
        rcases List.mem_cons.1 hm with rfl | hm
        · match l, h2 with
          | a :: p :: q :: z :: r, h2 => exact h z (by simp)
        · exact lnRead_tick f _ (fun x hx => h x (List.mem_of_mem_drop hx)) m hm
      · rw [if_neg h2] at hm
        exact lnRead_tick f _ (fun x hx => h x (List.mem_of_mem_drop hx)) m hm

/-- A message of a task, read at t from one of the lines. -/
structure MgOk (c : Cfg) (t : Int) (ls : List (List Fd)) (m : Mg) : Prop where
  ok : MgIn m
  le : m.tick ≤ t
  kn : m.task < c.tasks.length
  late : ∀ T, (∀ l ∈ ls, lo T l ≤ 3) → T < m.tick
theorem MgOk.mono {c : Cfg} {t : Int} {ls ls' : List (List Fd)} {m : Mg} (h : MgOk c t ls m) (hs : ∀ l ∈ ls, l ∈ ls') : MgOk c t ls' m := ⟨h.ok, h.le, h.kn, fun T hT => h.late T fun l hl => hT l (hs l hl)⟩

/-- What a reading adds. -/
def RdNew (c : Cfg) (t : Int) (Q : Mg → Prop) (r r' : Rdg) : Prop :=
  ∃ new newo, r'.jobs = r.jobs ++ new ∧ r'.out = r.out ++ newo ∧ r.ct.jobs ≤ r'.ct.jobs ∧ (∀ j ∈ new, r.ct.jobs ≤ j.number ∧ ∃ m, Q m ∧ j.task = m.task ∧ j.deadline = m.tick + dueOf c m.task ∧ j.cost = m.cost) ∧ ∀ e ∈ newo, e.kind = 3 ∧ e.tick = t ∧ e.job = -1 ∧ ∃ m, Q m ∧ e.task = m.task ∧ e.deadline = m.tick + dueOf c m.task
theorem RdNew.refl (c : Cfg) (t : Int) (Q : Mg → Prop) (r : Rdg) : RdNew c t Q r r := ⟨[], [], by simp, by simp, Int.le_refl _, by simp, by simp⟩
theorem RdNew.trans {c : Cfg} {t : Int} {Q : Mg → Prop} {r r1 r2 : Rdg} (h : RdNew c t Q r r1) (k : RdNew c t Q r1 r2) : RdNew c t Q r r2 := by
  obtain ⟨n1, o1, a1, a2, a3, a4, a5⟩ := h
  obtain ⟨n2, o2, b1, b2, b3, b4, b5⟩ := k
  refine ⟨n1 ++ n2, o1 ++ o2, by rw [b1, a1, List.append_assoc], by rw [b2, a2, List.append_assoc], by omega, ?_, ?_⟩
  · intro j hj
    rcases List.mem_append.1 hj with hj | hj
    · exact a4 j hj
    · obtain ⟨h1, h2⟩ := b4 j hj
      exact ⟨by omega, h2⟩
  · intro e he
    rcases List.mem_append.1 he with he | he
    · exact a5 e he
    · exact b5 e he
theorem RdNew.mono {c : Cfg} {t : Int} {Q Q' : Mg → Prop} {r r1 : Rdg} (h : RdNew c t Q r r1) (k : ∀ m, Q m → Q' m) : RdNew c t Q' r r1 := by
  obtain ⟨n1, o1, a1, a2, a3, a4, a5⟩ := h
  refine ⟨n1, o1, a1, a2, a3, fun j hj => ?_, fun e he => ?_⟩
  · obtain ⟨h1, m, hm, h2⟩ := a4 j hj
    exact ⟨h1, m, k m hm, h2⟩
  · obtain ⟨h1, h2, h3, m, hm, h4⟩ := a5 e he
    exact ⟨h1, h2, h3, m, k m hm, h4⟩
theorem exTake_new {c : Cfg} {t : Int} {Q : Mg → Prop} (r : Rdg) {m : Mg} (hm : m.task < c.tasks.length → Q m) : RdNew c t Q r (exTake c t r m) := by
  unfold exTake
  split
  · exact ⟨[], [], by simp, by simp, Int.le_refl _, by simp, by simp⟩
  · rename_i hk
    split
    · refine ⟨[], [⟨3, t, -1, m.task, m.tick + (c.tasks.map Tk.due).getD m.task.toNat 0⟩], by simp, rfl, Int.le_refl _, by simp, ?_⟩
      intro e he
      simp only [List.mem_cons, List.not_mem_nil, or_false] at he
      subst he
      exact ⟨rfl, rfl, rfl, m, hm (by omega), rfl, rfl⟩
    · refine ⟨[⟨r.ct.jobs, m.task, m.tick + (c.tasks.map Tk.due).getD m.task.toNat 0, m.cost⟩], [], rfl, by simp, by simp only; omega, ?_, by simp⟩
      intro j hj
      simp only [List.mem_cons, List.not_mem_nil, or_false] at hj
      subst hj
      exact ⟨Int.le_refl _, m, hm (by omega), rfl, rfl, rfl⟩
theorem foldTake_new {c : Cfg} {t : Int} {Q : Mg → Prop} : ∀ (ms : List Mg) (r : Rdg), (∀ m ∈ ms, m.task < c.tasks.length → Q m) → RdNew c t Q r (ms.foldl (exTake c t) r)
  | [], r, _ => RdNew.refl c t Q r
  | m :: ms, r, h => by
    rw [List.foldl_cons]
    exact (exTake_new r (h m (by simp))).trans (foldTake_new ms _ fun x hx => h x (by simp [hx]))
theorem exLine_new {c : Cfg} {t F : Int} {l : List Fd} {r : Rdg} (hl : LnIn F l) : RdNew c t (MgOk c t [l]) r (exLine c t l r).2 ∧ (exLine c t l r).1.Sublist l ∧ lo t (exLine c t l r).1 ≤ 3 := by
  have hf := (filter_fed (t := t) hl.tk).1
  refine ⟨?_, ?_, ?_⟩
  · rw [exLine_two c t l r hl.tk]
    have h1 := lnRead_in l.length (l.take (fedBy t l)) (fun x hx => (hl.fd x (List.mem_of_mem_take hx)).1)
    have h2 : ∀ m ∈ (lnRead l.length (l.take (fedBy t l))).1, m.tick ≤ t := lnRead_tick _ _ fun x hx => by
      rw [← hf] at hx
      simpa using (List.mem_filter.1 hx).2
    have h3 : ∀ T, lo T l ≤ 3 → ∀ m ∈ (lnRead l.length (l.take (fedBy t l))).1, T < m.tick := fun T hT => lnRead_late _ _ (hl.tk.sublist (List.take_sublist _ _)) (Nat.le_trans (lo_sub (List.take_sublist _ _)) hT)
    exact foldTake_new _ _ fun m hm hk => ⟨h1 m hm, h2 m hm, hk, fun T hT => h3 T (hT l (by simp)) m hm⟩
  · rw [exLine_two c t l r hl.tk]
    exact List.drop_sublist _ _
  · unfold exLine
    simp only [lo, List.countP_append]
    have h0 : (l.filter fun f => !decide (f.tick ≤ t)).countP (fun f => decide (f.tick ≤ t)) = 0 := by
      rw [List.countP_eq_zero]
      intro a ha
      simpa using (List.mem_filter.1 ha).2
    rw [exRead_two]
    have h3 := lnRead_end l.length (l.filter fun f => decide (f.tick ≤ t)) (List.length_filter_le _ _)
    have h4 : (lnRead l.length (l.filter fun f => decide (f.tick ≤ t))).2.2.countP (fun f => decide (f.tick ≤ t)) ≤ (lnRead l.length (l.filter fun f => decide (f.tick ≤ t))).2.2.length := List.countP_le_length
    simp only at h3 h4 ⊢
    omega
theorem exLines_new {c : Cfg} {t F : Int} : ∀ (ls : List (List Fd)) (r : Rdg), (∀ l ∈ ls, LnIn F l) → RdNew c t (MgOk c t ls) r (exLines c t ls r).2 ∧ ∀ l' ∈ (exLines c t ls r).1, lo t l' ≤ 3 ∧ ∃ l ∈ ls, l'.Sublist l
  | [], r, _ => ⟨RdNew.refl _ _ _ _, by simp [exLines]⟩
  | l :: ls, r, h => by
    obtain ⟨a1, a2, a3⟩ := exLine_new (c := c) (t := t) (r := r) (h l (by simp))
    obtain ⟨b1, b2⟩ := exLines_new (c := c) (t := t) ls (exLine c t l r).2 fun x hx => h x (by simp [hx])
    refine ⟨(a1.mono fun m hm => hm.mono (by simp)).trans (b1.mono fun m hm => hm.mono fun x hx => by simp [hx]), ?_⟩
    intro l' hl'
    simp only [exLines, List.mem_cons] at hl'
    rcases hl' with rfl | hl'
    · exact ⟨a3, l, by simp, a2⟩
    · obtain ⟨h1, x, hx, h2⟩ := b2 l' hl'
      exact ⟨h1, x, by simp [hx], h2⟩

/-- Of a job that was begun and one that waits. -/
def RBJ (c : Cfg) (a : Ev) (j : Jb) : Prop := a.job ≠ j.number ∧ (j.deadline - dueOf c j.task ≤ a.tick - c.poll → ¬ (j.deadline < a.deadline ∨ j.deadline = a.deadline ∧ j.number < a.job))
/-- Of two that were begun. -/
def RBB (c : Cfg) (a b : Ev) : Prop := a.job ≠ b.job ∧ (b.deadline - dueOf c b.task ≤ a.tick - c.poll → ¬ (b.deadline < a.deadline ∨ b.deadline = a.deadline ∧ b.job < a.job))
def begs (es : List Ev) : List Ev := es.filter fun e => decide (e.kind = 1)
theorem begs_append (a b : List Ev) : begs (a ++ b) = begs a ++ begs b := by simp [begs]
/-- The numbers of an event. -/
structure EvIn (c : Cfg) (e : Ev) : Prop where
  t0 : 0 ≤ e.task
  t1 : e.task < c.tasks.length
  a0 : 0 ≤ e.tick
  a1 : e.tick ≤ 3294
  d0 : 0 ≤ e.deadline
  d1 : e.deadline ≤ 1400
structure JbIn (c : Cfg) (j : Jb) : Prop where
  t0 : 0 ≤ j.task
  t1 : j.task < c.tasks.length
  d0 : 0 ≤ j.deadline
  d1 : j.deadline ≤ 1400

/-- What stands between the calls: what was done, and what waits. -/
structure WhP (c : Cfg) (x : Exs) (done : List Ev) : Prop where
  cf : x.cfg = c
  wf : ∃ e, WfE c 0 done e ∧ e ≤ x.clock
  ord : (begs done).Pairwise (RBB c)
  past : ∀ a ∈ begs done, a.job < x.ct.jobs ∧ a.tick - c.poll < x.clock ∧ (∀ l ∈ x.lines, lo (a.tick - c.poll) l ≤ 3) ∧ ∀ j ∈ x.jobs, RBJ c a j
  ev : ∀ e ∈ done, EvIn c e
  jb : ∀ j ∈ x.jobs, JbIn c j

theorem exNew_wh (c : Cfg) : WhP c (exNew c) [] := ⟨rfl, ⟨0, .nil 0, Int.le_refl _⟩, by simp [begs], by simp [begs], by simp, by simp [exNew]⟩
theorem lineFeed_lo {T t : Int} (h : T < t) : ∀ (bs : List Int) (l : List Fd) (s : Int), lo T (bs.foldl (lineAdd t) (l, s)).1 = lo T l
  | [], _, _ => rfl
  | b :: bs, l, s => by
    rw [List.foldl_cons, lineAdd]
    split
    · rw [lineFeed_lo h bs]
      simp [lo]
      omega
    · exact lineFeed_lo h bs l _
theorem exFeed_wh {c : Cfg} {x : Exs} {done : List Ev} {line t : Int} {bs : List Int} (h : WhP c x done) (h0 : (exFeed x line t bs).2 = 0) : WhP c (exFeed x line t bs).1 done := by
  unfold exFeed at h0 ⊢
  split at h0
  · rename_i h1
    rw [if_pos h1]
    split at h0
    · simp at h0
    · rename_i h2
      rw [if_neg h2]
      refine ⟨h.cf, h.wf, h.ord, fun a ha => ?_, h.ev, h.jb⟩
      obtain ⟨p1, p2, p3, p4⟩ := h.past a ha
      refine ⟨p1, p2, fun l hl => ?_, p4⟩
      simp only at hl
      rcases List.mem_or_eq_of_mem_set hl with hl | rfl
      · exact p3 l hl
      · unfold lineFeed
        rw [lineFeed_lo (by omega)]
        cases hg : x.lines[line.toNat]? with
        | none => rw [List.getD_eq_getElem?_getD, hg]; simp [lo]
        | some l => rw [List.getD_eq_getElem?_getD, hg]; exact p3 l (List.mem_of_getElem? hg)
  · simp at h0

theorem exRound_wh {c : Cfg} {x : Exs} {N : Int} {done : List Ev} (h : WhP c x done) (hi : ExIn x N) (hc : x.clock < 3000) : WhP c (exRound x).1 (done ++ (exRound x).2) := by
  have hcf := h.cf
  have hok := hi.cfg
  obtain ⟨⟨c1, c2⟩, ⟨c3, c4⟩, ⟨c5, c6⟩, ⟨c7, c8⟩, ⟨c9, c10⟩, ⟨c11, c12⟩, _⟩ := cfgNum hok
  obtain ⟨a1, a2, a3, a4, a5, a6⟩ := exLines_in (t := x.clock) x.lines hi.ln hi.rd
  obtain ⟨⟨new, newo, n1, n2, n3, n4, n5⟩, n6⟩ := exLines_new (c := x.cfg) (t := x.clock) x.lines ⟨x.jobs, x.ct, []⟩ hi.ln
  have hck := hi.ck0
  generalize hp : exLines x.cfg x.clock x.lines ⟨x.jobs, x.ct, []⟩ = p at *
  obtain ⟨e0, hw, he0⟩ := h.wf
  simp only [List.nil_append] at n1 n2 n3 n4
  -- what was read
  have hnj : ∀ j ∈ new, JbIn c j := by
    intro j hj
    obtain ⟨_, m, hm, h1, h2, _⟩ := n4 j hj
    have d := dueOf_in hok hm.ok.t0 hm.kn
    have k0 := hm.ok.k0
    have k1 := hm.ok.k1
    have k2 := hm.ok.t0
    have k3 := hm.kn
    rw [hcf] at d k3 h2
    exact ⟨by omega, by omega, by omega, by omega⟩
  have hjb : ∀ j ∈ p.2.jobs, JbIn c j := by
    intro j hj
    rw [n1] at hj
    rcases List.mem_append.1 hj with hj | hj
    · exact h.jb j hj
    · exact hnj j hj
  have hno : ∀ e ∈ newo, EvIn c e := by
    intro e he
    obtain ⟨_, h3, _, m, hm, h1, h2⟩ := n5 e he
    have d := dueOf_in hok hm.ok.t0 hm.kn
    have k0 := hm.ok.k0
    have k1 := hm.ok.k1
    have k2 := hm.ok.t0
    have k3 := hm.kn
    rw [hcf] at d k3 h2
    exact ⟨by omega, by omega, by omega, by omega, by omega, by omega⟩
  have hlw : WfE c e0 p.2.out e0 := by
    rw [n2]
    exact WfE.losts fun d hd => by
      obtain ⟨h1, h2, h3, _⟩ := n5 d hd
      exact ⟨h1, by omega, h3⟩
  have hbo : begs p.2.out = [] := by
    rw [n2]
    refine List.filter_eq_nil_iff.2 fun e he => ?_
    have := (n5 e he).1
    simp [this]
  have hev : ∀ e ∈ done ++ p.2.out, EvIn c e := by
    intro e he
    rw [n2] at he
    rcases List.mem_append.1 he with he | he
    · exact h.ev e he
    · exact hno e he
  have hpast : ∀ a ∈ begs done, a.job < p.2.ct.jobs ∧ a.tick - c.poll < x.clock ∧ (∀ l ∈ p.1, lo (a.tick - c.poll) l ≤ 3) ∧ ∀ j ∈ p.2.jobs, RBJ c a j := by
    intro a ha
    obtain ⟨p1, p2, p3, p4⟩ := h.past a ha
    refine ⟨by omega, p2, fun l hl => ?_, fun j hj => ?_⟩
    · obtain ⟨_, l2, h2, h3⟩ := n6 l hl
      exact Nat.le_trans (lo_sub h3) (p3 l2 h2)
    · rw [n1] at hj
      rcases List.mem_append.1 hj with hj | hj
      · exact p4 j hj
      · obtain ⟨h1, m, hm, h2, h3, _⟩ := n4 j hj
        have hl := hm.late _ p3
        rw [hcf] at h3
        refine ⟨by omega, fun hh => ?_⟩
        rw [h2, h3] at hh
        omega
  have hlo : ∀ l ∈ p.1, lo x.clock l ≤ 3 := fun l hl => (n6 l hl).1
  have hpo : x.cfg.poll = c.poll := by rw [hcf]
  have hsw : x.cfg.sw = c.sw := by rw [hcf]
  cases hj : p.2.jobs[firstJ p.2.jobs]? with
  | none =>
    have e : exRound x = ({ x with lines := p.1, jobs := p.2.jobs, ct := p.2.ct, clock := x.clock + x.cfg.poll + x.cfg.idle }, p.2.out) := by
      unfold exRound
      simp only [hp, hj]
    rw [e]
    refine ⟨hcf, ⟨e0, hw.append hlw, by simp only; omega⟩, ?_, ?_, hev, hjb⟩
    · rw [begs_append, hbo, List.append_nil]; exact h.ord
    · intro a ha
      rw [begs_append, hbo, List.append_nil] at ha
      obtain ⟨p1, p2, p3, p4⟩ := hpast a ha
      exact ⟨p1, by simp only; omega, p3, p4⟩
  | some j =>
    have e : exRound x = ({ x with lines := p.1, jobs := p.2.jobs.eraseIdx (firstJ p.2.jobs), ct := { p.2.ct with done := p.2.ct.done + 1 }, clock := x.clock + x.cfg.poll + x.cfg.sw + j.cost }, p.2.out ++ [⟨1, x.clock + x.cfg.poll, j.number, j.task, j.deadline⟩, ⟨2, x.clock + x.cfg.poll + x.cfg.sw + j.cost, j.number, j.task, j.deadline⟩]) := by
      unfold exRound
      simp only [hp, hj]
    rw [e]
    have hjm := List.mem_of_getElem? hj
    obtain ⟨j0, j1, j2, j3⟩ := a3.jb j hjm
    have hjin := hjb j hjm
    have hbeg : begs (done ++ (p.2.out ++ [⟨1, x.clock + x.cfg.poll, j.number, j.task, j.deadline⟩, ⟨2, x.clock + x.cfg.poll + x.cfg.sw + j.cost, j.number, j.task, j.deadline⟩])) = begs done ++ [⟨1, x.clock + x.cfg.poll, j.number, j.task, j.deadline⟩] := by
      rw [begs_append, begs_append, hbo]
      simp [begs]
    have hfs := (firstJ_spec (js := p.2.jobs) (List.length_pos_iff.2 fun e => by rw [e] at hjm; simp at hjm)).2
    refine ⟨hcf, ⟨x.clock + x.cfg.poll + x.cfg.sw + j.cost, (hw.append hlw).append (a := done ++ p.2.out) ?_ |> fun z => by rw [← List.append_assoc]; exact z, Int.le_refl _⟩, ?_, ?_, ?_, ?_⟩
    · exact .pair rfl (by simp only; omega) rfl rfl rfl rfl (by simp only; omega) (.nil _)
    · rw [hbeg]
      refine List.pairwise_append.2 ⟨h.ord, by simp, ?_⟩
      intro a ha b hb
      simp only [List.mem_cons, List.not_mem_nil, or_false] at hb
      subst hb
      exact (hpast a ha).2.2.2 j hjm
    · intro a ha
      rw [hbeg] at ha
      rcases List.mem_append.1 ha with ha | ha
      · obtain ⟨p1, p2, p3, p4⟩ := hpast a ha
        exact ⟨p1, by simp only; omega, p3, fun q hq => p4 q (List.mem_of_mem_eraseIdx hq)⟩
      · simp only [List.mem_cons, List.not_mem_nil, or_false] at ha
        subst ha
        refine ⟨j1, by simp only; omega, ?_, ?_⟩
        · simp only
          rw [show x.clock + x.cfg.poll - c.poll = x.clock from by omega]
          exact hlo
        · intro q hq
          refine ⟨?_, fun _ => ?_⟩
          · simp only
            intro hn
            have hnd := a3.nd
            obtain ⟨i, hi1, hi2⟩ := List.mem_eraseIdx_iff_getElem?.1 hq
            have h1 : (p.2.jobs.map Jb.number)[i]? = some q.number := by simp [hi2]
            have h2 : (p.2.jobs.map Jb.number)[firstJ p.2.jobs]? = some j.number := by simp [hj]
            rw [← hn] at h1
            have hl := lt_of_get h2
            exact hi1 ((List.getElem?_inj hl hnd).1 (h2.trans h1.symm)).symm
          · obtain ⟨i, hi1, hi2⟩ := List.mem_eraseIdx_iff_getElem?.1 hq
            have := hfs i q j hi2 hj
            rw [jle_iff] at this
            simp only
            omega
    · intro q hq
      rw [← List.append_assoc] at hq
      rcases List.mem_append.1 hq with hq | hq
      · exact hev q hq
      · have := (exRound_in hi hc).1.ck1
        rw [e] at this
        simp only at this
        simp only [List.mem_cons, List.not_mem_nil, or_false] at hq
        rcases hq with rfl | rfl
        · exact ⟨hjin.t0, hjin.t1, by simp only; omega, by simp only; omega, hjin.d0, hjin.d1⟩
        · exact ⟨hjin.t0, hjin.t1, by simp only; omega, by simp only; omega, hjin.d0, hjin.d1⟩
    · intro q hq
      exact hjb q (List.mem_of_mem_eraseIdx hq)

theorem exRun_wh (u : Int) {c : Cfg} : ∀ (f : Nat) {x : Exs} {N : Int} {done : List Ev}, WhP c x done → ExIn x N → WhP c (exRun u f x).1 (done ++ (exRun u f x).2)
  | 0, x, _, done, h, _ => by simpa [exRun] using h
  | f + 1, x, N, done, h, hi => by
    unfold exRun
    split
    · rename_i hc
      have := exRun_wh u f (exRound_wh h hi hc.2) (exRound_in hi hc.2).1
      rw [List.append_assoc] at this
      exact this
    · simpa using h

end Go.Proofs.Ythloffgebebijaa
