/- ExInv: what stands in an executive between its calls, in plain numbers: every byte is accounted for, every job too; New, Feed, a round and Run keep it. No function of the program is named here. -/
import Derived.Test.YthloffgebebijaaLineA
import Derived.Test.YthloffgebebijaaFedA
namespace Go.Proofs.Ythloffgebebijaa
open Go.RowKit

theorem cfgNum {c : Cfg} (h : cfgOk c = true) : (1 ≤ c.lines ∧ c.lines ≤ 4) ∧ (1 ≤ c.room ∧ c.room ≤ 40) ∧ (1 ≤ c.poll ∧ c.poll ≤ 20) ∧ (0 ≤ c.idle ∧ c.idle ≤ 20) ∧ (0 ≤ c.sw ∧ c.sw ≤ 20) ∧ (1 ≤ c.tasks.length ∧ c.tasks.length ≤ 6) ∧ ∀ t ∈ c.tasks, 1 ≤ t.due ∧ t.due ≤ 400 := by
  simp only [cfgOk, tasksOk, Bool.and_eq_true, decide_eq_true_eq, List.all_eq_true] at h
  obtain ⟨h1, h2, h3, h4, h5, h6, h7⟩ := h
  refine ⟨h1, h2, h3, h4, h5, h6, fun t ht => ?_⟩
  have := h7 t ht
  simp only [taskOk, Bool.and_eq_true, decide_eq_true_eq] at this
  exact this.2.1

/-- The bounds of a message. -/
structure MgIn (m : Mg) : Prop where
  t0 : 0 ≤ m.task
  t1 : m.task < 256
  c0 : 1 ≤ m.cost
  c1 : m.cost ≤ 255
  k0 : 0 ≤ m.tick
  k1 : m.tick < 1000

theorem mgOf_in {l : List Fd} (hm : isMg l = true) (h : ∀ f ∈ l, FdIn f) : MgIn (mgOf l) := by
  match l, hm with
  | a :: p :: q :: z :: r, hm =>
    have hp := h p (by simp)
    have hq := h q (by simp)
    have hz := h z (by simp)
    simp only [isMg, Bool.and_eq_true, decide_eq_true_eq] at hm
    have q0 := hq.b0
    have q1 := hq.b1
    have hq0 : q.b ≠ 0 := hm.2.1
    exact ⟨hp.b0, hp.b1, show 1 ≤ q.b by omega, show q.b ≤ 255 by omega, hz.t0, hz.t1⟩
theorem lnRead_in : ∀ (f : Nat) (l : List Fd), (∀ x ∈ l, FdIn x) → ∀ m ∈ (lnRead f l).1, MgIn m
  | 0, l, _, m, hm => by simp [lnRead] at hm
  | f + 1, l, h, m, hm => by
    rw [lnRead] at hm
    by_cases h1 : l = [] ∨ unfin l = true
    · rw [if_pos h1] at hm; simp at hm
    · rw [if_neg h1] at hm
      by_cases h2 : isMg l = true
      · rw [if_pos h2] at hm
        rcases List.mem_cons.1 hm with rfl | hm
        · exact mgOf_in h2 h
        · exact lnRead_in f _ (fun x hx => h x (List.mem_of_mem_drop hx)) m hm
      · rw [if_neg h2] at hm
        exact lnRead_in f _ (fun x hx => h x (List.mem_of_mem_drop hx)) m hm

/-- What a reading keeps: the room, the numbers of the jobs, how many there were, how many bytes were read. -/
structure RdIn (c : Cfg) (M : Int) (r : Rdg) : Prop where
  nj : (r.jobs.length : Int) ≤ c.room
  nd : (r.jobs.map Jb.number).Nodup
  jb : ∀ j ∈ r.jobs, 0 ≤ j.number ∧ j.number < r.ct.jobs ∧ 1 ≤ j.cost ∧ j.cost ≤ 255
  dn : r.ct.jobs = r.ct.done + r.jobs.length
  d0 : 0 ≤ r.ct.done
  l0 : 0 ≤ r.ct.lost
  u0 : 0 ≤ r.ct.unknown
  b0 : 0 ≤ r.ct.bad
  tot : r.ct.bad + 4 * (r.ct.jobs + r.ct.lost + r.ct.unknown) = M

theorem exTake_in {c : Cfg} {M t : Int} {r : Rdg} {m : Mg} (h : RdIn c M r) (hm : MgIn m) : RdIn c (M + 4) (exTake c t r m) := by
  obtain ⟨h1, h2, h3, h4, h5, h6, h7, h8, h9⟩ := h
  unfold exTake
  split
  · exact ⟨h1, h2, h3, h4, h5, h6, by simp only; omega, h8, by simp only; omega⟩
  · split
    · exact ⟨h1, h2, h3, h4, h5, by simp only; omega, h7, h8, by simp only; omega⟩
    · have j0 : 0 ≤ r.ct.jobs := by omega
      refine ⟨by simp; omega, ?_, ?_, by simp; omega, h5, h6, h7, h8, by simp only; omega⟩
      · simp only [List.map_append, List.map_cons, List.map_nil]
        rw [List.nodup_append]
        refine ⟨h2, by simp, ?_⟩
        intro a ha b hb
        simp only [List.mem_cons, List.not_mem_nil, or_false] at hb
        obtain ⟨j, hj, rfl⟩ := List.mem_map.1 ha
        have := h3 j hj
        omega
      · intro j hj
        rcases List.mem_append.1 hj with hj | hj
        · have := h3 j hj
          simp only
          omega
        · simp only [List.mem_cons, List.not_mem_nil, or_false] at hj
          subst hj
          have c0 := hm.c0
          have c1 := hm.c1
          simp only
          omega
theorem addBad_in {c : Cfg} {M n : Int} {r : Rdg} (h : RdIn c M r) (hn : 0 ≤ n) : RdIn c (M + n) (addBad r n) := by
  obtain ⟨h1, h2, h3, h4, h5, h6, h7, h8, h9⟩ := h
  exact ⟨h1, h2, h3, h4, h5, h6, h7, by simp only [addBad]; omega, by simp only [addBad]; omega⟩
theorem foldTake_in {c : Cfg} {t : Int} : ∀ (ms : List Mg) {M : Int} {r : Rdg}, RdIn c M r → (∀ m ∈ ms, MgIn m) → RdIn c (M + 4 * ms.length) (ms.foldl (exTake c t) r)
  | [], _, _, h, _ => by simpa using h
  | m :: ms, M, r, h, hm => by
    have := foldTake_in (t := t) ms (exTake_in (t := t) h (hm m (by simp))) (fun x hx => hm x (by simp [hx]))
    rw [List.foldl_cons]
    rw [show M + 4 * ((m :: ms).length : Int) = M + 4 + 4 * (ms.length : Int) from by simp; omega]
    exact this

/-- What a reading leaves as it was. -/
theorem exTake_keep (c : Cfg) (t : Int) (r : Rdg) (m : Mg) : (exTake c t r m).ct.done = r.ct.done ∧ (exTake c t r m).ct.spilled = r.ct.spilled ∧ (exTake c t r m).out.length ≤ r.out.length + 1 := by
  unfold exTake
  split
  · exact ⟨rfl, rfl, by simp⟩
  · split
    · exact ⟨rfl, rfl, by simp⟩
    · exact ⟨rfl, rfl, by simp⟩
theorem foldTake_keep (c : Cfg) (t : Int) : ∀ (ms : List Mg) (r : Rdg), (ms.foldl (exTake c t) r).ct.done = r.ct.done ∧ (ms.foldl (exTake c t) r).ct.spilled = r.ct.spilled ∧ (ms.foldl (exTake c t) r).out.length ≤ r.out.length + ms.length
  | [], r => ⟨rfl, rfl, by simp⟩
  | m :: ms, r => by
    obtain ⟨a1, a2, a3⟩ := exTake_keep c t r m
    obtain ⟨b1, b2, b3⟩ := foldTake_keep c t ms (exTake c t r m)
    rw [List.foldl_cons]
    exact ⟨b1.trans a1, b2.trans a2, by simp; omega⟩

/-- A line that may be. -/
structure LnIn (F : Int) (l : List Fd) : Prop where
  len : l.length ≤ 32
  tk : Ticks l
  fd : ∀ f ∈ l, FdIn f ∧ f.tick ≤ F
theorem LnIn.drop {F : Int} {l : List Fd} (h : LnIn F l) (k : Nat) : LnIn F (l.drop k) :=
  ⟨by have := h.len; rw [List.length_drop]; omega, h.tk.sublist (List.drop_sublist k l), fun f hf => h.fd f (List.mem_of_mem_drop hf)⟩

theorem exLine_in {c : Cfg} {t F M : Int} {l : List Fd} {r : Rdg} (hl : LnIn F l) (h : RdIn c M r) :
    ∃ k, k ≤ l.length ∧ (exLine c t l r).1 = l.drop k ∧ RdIn c (M + k) (exLine c t l r).2 ∧ (exLine c t l r).2.ct.done = r.ct.done ∧ (exLine c t l r).2.ct.spilled = r.ct.spilled ∧ (exLine c t l r).2.out.length ≤ r.out.length + 8 := by
  rw [exLine_two c t l r hl.tk]
  obtain ⟨k, hk, hkl, hs⟩ := lnRead_drop l.length (l.take (fedBy t l))
  have hf := fedBy_le t l
  have hlen : (l.take (fedBy t l)).length = fedBy t l := by rw [List.length_take]; omega
  rw [hlen] at hkl
  have hin := lnRead_in l.length (l.take (fedBy t l)) (fun x hx => (hl.fd x (List.mem_of_mem_take hx)).1)
  refine ⟨k, by omega, ?_, ?_, ?_⟩
  · rw [hk, List.length_drop, hlen, show fedBy t l - (fedBy t l - k) = k from by omega]
  · have := addBad_in (foldTake_in (t := t) _ h hin) (n := ((lnRead l.length (l.take (fedBy t l))).2.1 : Int)) (by omega)
    rw [show M + (k : Int) = M + 4 * ((lnRead l.length (l.take (fedBy t l))).1.length : Int) + ((lnRead l.length (l.take (fedBy t l))).2.1 : Int) from by omega]
    exact this
  · obtain ⟨b1, b2, b3⟩ := foldTake_keep c t (lnRead l.length (l.take (fedBy t l))).1 r
    have := hl.len
    exact ⟨b1, b2, by simp only [addBad]; omega⟩

def held (ls : List (List Fd)) : Int := (ls.map fun l => (l.length : Int)).sum
theorem held_nil : held [] = 0 := rfl
theorem held_cons (l : List Fd) (ls : List (List Fd)) : held (l :: ls) = l.length + held ls := by simp [held]
theorem held_append (a b : List (List Fd)) : held (a ++ b) = held a + held b := by simp [held]
theorem held_nonneg : ∀ ls : List (List Fd), 0 ≤ held ls
  | [] => by simp [held]
  | l :: ls => by have := held_nonneg ls; rw [held_cons]; omega

theorem exLines_in {c : Cfg} {t F : Int} : ∀ (ls : List (List Fd)) {M : Int} {r : Rdg}, (∀ l ∈ ls, LnIn F l) → RdIn c M r →
    (exLines c t ls r).1.length = ls.length ∧ (∀ l ∈ (exLines c t ls r).1, LnIn F l) ∧ RdIn c (M + held ls - held (exLines c t ls r).1) (exLines c t ls r).2 ∧ (exLines c t ls r).2.ct.done = r.ct.done ∧ (exLines c t ls r).2.ct.spilled = r.ct.spilled ∧ (exLines c t ls r).2.out.length ≤ r.out.length + 8 * ls.length
  | [], M, r, _, h => ⟨rfl, by simp [exLines], by simpa [exLines, held] using h, rfl, rfl, by simp [exLines]⟩
  | l :: ls, M, r, hl, h => by
    obtain ⟨k, hk, e1, h1, d1, s1, o1⟩ := exLine_in (t := t) (hl l (by simp)) h
    obtain ⟨a1, a2, a3, a4, a5, a6⟩ := exLines_in (t := t) ls (fun x hx => hl x (by simp [hx])) h1
    refine ⟨by simp [exLines, a1], ?_, ?_, by simp only [exLines]; exact a4.trans d1, by simp only [exLines]; exact a5.trans s1, by simp only [exLines, List.length_cons]; omega⟩
    · intro x hx
      simp only [exLines, List.mem_cons] at hx
      rcases hx with rfl | hx
      · rw [e1]; exact (hl l (by simp)).drop k
      · exact a2 x hx
    · simp only [exLines, held_cons]
      rw [e1, List.length_drop]
      rw [show M + ((l.length : Int) + held ls) - (((l.length - k : Nat) : Int) + held (exLines c t ls (exLine c t l r).2).1) = M + k + held ls - held (exLines c t ls (exLine c t l r).2).1 from by omega]
      exact a3

theorem exLines_snoc (c : Cfg) (t : Int) : ∀ (a : List (List Fd)) (l : List Fd) (r : Rdg), exLines c t (a ++ [l]) r = ((exLines c t a r).1 ++ [(exLine c t l (exLines c t a r).2).1], (exLine c t l (exLines c t a r).2).2)
  | [], l, r => by simp [exLines]
  | x :: a, l, r => by
    rw [List.cons_append, exLines, exLines_snoc c t a l]
    rfl

/-- What stands between the calls: N bytes were fed. -/
structure ExIn (x : Exs) (N : Int) : Prop where
  cfg : cfgOk x.cfg = true
  nl : (x.lines.length : Int) = x.cfg.lines
  ln : ∀ l ∈ x.lines, LnIn x.fed l
  rd : RdIn x.cfg (N - x.ct.spilled - held x.lines) ⟨x.jobs, x.ct, []⟩
  ck0 : 0 ≤ x.clock
  ck1 : x.clock ≤ 3294
  fe0 : 0 ≤ x.fed
  fe1 : x.fed < 1000
  sp0 : 0 ≤ x.ct.spilled

theorem exNew_in {c : Cfg} (h : cfgOk c = true) : ExIn (exNew c) 0 := by
  obtain ⟨⟨h1, h2⟩, ⟨h3, h4⟩, _⟩ := cfgNum h
  have hh : held (exNew c).lines = 0 := by
    simp only [exNew, held, List.map_replicate, List.length_nil]
    generalize c.lines.toNat = n
    induction n with
    | zero => rfl
    | succ n ih => rw [List.replicate_succ, List.sum_cons, ih]; rfl
  refine ⟨h, by simp [exNew]; omega, ?_, ?_, Int.le_refl _, by simp [exNew], Int.le_refl _, by simp [exNew], Int.le_refl _⟩
  · intro l hl
    have := List.eq_of_mem_replicate hl
    subst this
    exact ⟨by simp, List.Pairwise.nil, by simp⟩
  · rw [hh]
    exact ⟨by simp [exNew]; omega, by simp [exNew], by simp [exNew], by simp [exNew], by simp [exNew], by simp [exNew], by simp [exNew], by simp [exNew], by simp [exNew]⟩

theorem firstJ_some {js : List Jb} (h : js ≠ []) : ∃ j, js[firstJ js]? = some j := get_of_lt (firstJ_spec (List.length_pos_iff.2 h)).1

theorem exRound_in {x : Exs} {N : Int} (h : ExIn x N) (hc : x.clock < 3000) : ExIn (exRound x).1 N ∧ x.clock < (exRound x).1.clock ∧ (exRound x).2.length ≤ 34 := by
  obtain ⟨⟨c1, c2⟩, ⟨c3, c4⟩, ⟨c5, c6⟩, ⟨c7, c8⟩, ⟨c9, c10⟩, _, _⟩ := cfgNum h.cfg
  obtain ⟨a1, a2, a3, a4, a5, a6⟩ := exLines_in (t := x.clock) x.lines h.ln h.rd
  have hck := h.ck0
  have hnl := h.nl
  simp only at a4 a5 a6
  generalize hp : exLines x.cfg x.clock x.lines ⟨x.jobs, x.ct, []⟩ = p at *
  have hol : p.2.out.length ≤ 32 := by simp at a6; omega
  have hrd : RdIn x.cfg (N - p.2.ct.spilled - held p.1) p.2 := by
    rw [a5, show N - x.ct.spilled - held p.1 = N - x.ct.spilled - held x.lines + held x.lines - held p.1 from by omega]
    exact a3
  cases hj : p.2.jobs[firstJ p.2.jobs]? with
  | none =>
    have e : exRound x = ({ x with lines := p.1, jobs := p.2.jobs, ct := p.2.ct, clock := x.clock + x.cfg.poll + x.cfg.idle }, p.2.out) := by
      unfold exRound
      simp only [hp, hj]
    rw [e]
    refine ⟨⟨h.cfg, by simp only; omega, a2, ?_, by simp only; omega, by simp only; omega, h.fe0, h.fe1, by simp only; rw [a5]; exact h.sp0⟩, by simp only; omega, by simp only; omega⟩
    exact ⟨hrd.nj, hrd.nd, hrd.jb, hrd.dn, hrd.d0, hrd.l0, hrd.u0, hrd.b0, hrd.tot⟩
  | some j =>
    have e : exRound x = ({ x with lines := p.1, jobs := p.2.jobs.eraseIdx (firstJ p.2.jobs), ct := { p.2.ct with done := p.2.ct.done + 1 }, clock := x.clock + x.cfg.poll + x.cfg.sw + j.cost }, p.2.out ++ [⟨1, x.clock + x.cfg.poll, j.number, j.task, j.deadline⟩, ⟨2, x.clock + x.cfg.poll + x.cfg.sw + j.cost, j.number, j.task, j.deadline⟩]) := by
      unfold exRound
      simp only [hp, hj]
    rw [e]
    obtain ⟨_, _, j0, j1⟩ := hrd.jb j (List.mem_of_getElem? hj)
    have hlt := lt_of_get hj
    have hle : (p.2.jobs.eraseIdx (firstJ p.2.jobs)).length = p.2.jobs.length - 1 := by rw [List.length_eraseIdx]; simp [hlt]
    have hnj := hrd.nj
    have hdn := hrd.dn
    refine ⟨⟨h.cfg, by simp only; omega, a2, ?_, by simp only; omega, by simp only; omega, h.fe0, h.fe1, by simp only; rw [a5]; exact h.sp0⟩, by simp only; omega, by simp; omega⟩
    refine ⟨by simp only; omega, ?_, fun q hq => hrd.jb q (List.mem_of_mem_eraseIdx hq), by simp only; omega, by have := hrd.d0; simp only; omega, hrd.l0, hrd.u0, hrd.b0, hrd.tot⟩
    exact hrd.nd.sublist ((List.eraseIdx_sublist _ _).map _)

theorem exRun_in (u : Int) : ∀ (f : Nat) {x : Exs} {N : Int}, ExIn x N → ExIn (exRun u f x).1 N
  | 0, _, _, h => h
  | f + 1, x, N, h => by
    unfold exRun
    split
    · rename_i hc
      exact exRun_in u f (exRound_in h hc.2).1
    · exact h

theorem held_set : ∀ (ls : List (List Fd)) (i : Nat) (l : List Fd), i < ls.length → held (ls.set i l) = held ls - (ls.getD i []).length + l.length
  | [], _, _, h => by simp at h
  | x :: ls, 0, l, _ => by simp [held_cons]; omega
  | x :: ls, i + 1, l, h => by
    have := held_set ls i l (by simpa using h)
    simp only [List.set_cons_succ, held_cons, this]
    simp
    omega

theorem lineFeed_in {t F : Int} : ∀ (bs : List Int) {l : List Fd} {s : Int}, LnIn F l → F ≤ t → 0 ≤ t → t < 1000 → (∀ b ∈ bs, 0 ≤ b ∧ b < 256) →
    LnIn t (bs.foldl (lineAdd t) (l, s)).1 ∧ s ≤ (bs.foldl (lineAdd t) (l, s)).2 ∧ (bs.foldl (lineAdd t) (l, s)).2 + ((bs.foldl (lineAdd t) (l, s)).1.length : Int) = s + l.length + bs.length
  | [], l, s, h, hF, _, _, _ => ⟨⟨h.len, h.tk, fun f hf => ⟨(h.fd f hf).1, by have := (h.fd f hf).2; omega⟩⟩, by simp, by simp⟩
  | b :: bs, l, s, h, hF, h0, h1, hb => by
    rw [List.foldl_cons]
    have hb0 := hb b (by simp)
    by_cases hl : l.length < 32
    · rw [lineAdd, if_pos hl]
      simp only
      have hln : LnIn t (l ++ [(⟨b, t⟩ : Fd)]) := by
        refine ⟨by simp; omega, ?_, ?_⟩
        · refine List.pairwise_append.2 ⟨h.tk, by simp, ?_⟩
          intro a ha c hc
          simp only [List.mem_cons, List.not_mem_nil, or_false] at hc
          subst hc
          have := (h.fd a ha).2
          simp only
          omega
        · intro f hf
          rcases List.mem_append.1 hf with hf | hf
          · exact ⟨(h.fd f hf).1, by have := (h.fd f hf).2; omega⟩
          · simp only [List.mem_cons, List.not_mem_nil, or_false] at hf
            subst hf
            exact ⟨⟨hb0.1, hb0.2, h0, h1⟩, Int.le_refl _⟩
      obtain ⟨p1, p2, p3⟩ := lineFeed_in bs (s := s) hln (Int.le_refl t) h0 h1 (fun x hx => hb x (by simp [hx]))
      refine ⟨p1, p2, ?_⟩
      rw [p3]
      simp
      omega
    · rw [lineAdd, if_neg hl]
      simp only
      obtain ⟨p1, p2, p3⟩ := lineFeed_in bs (s := s + 1) h hF h0 h1 (fun x hx => hb x (by simp [hx]))
      refine ⟨p1, by omega, ?_⟩
      rw [p3]
      simp
      omega

theorem exFeed_in {x : Exs} {N line t : Int} {bs : List Int} (h : ExIn x N) (hb : ∀ b ∈ bs, 0 ≤ b ∧ b < 256) : ExIn (exFeed x line t bs).1 (if (exFeed x line t bs).2 = 0 then N + bs.length else N) := by
  unfold exFeed
  split
  · rename_i h1
    split
    · simpa using h
    · rename_i h2
      have hck := h.ck0
      have hfe := h.fe0
      have hnl := h.nl
      simp only
      rw [if_pos trivial]
      have hi : line.toNat < x.lines.length := by omega
      obtain ⟨l, hl⟩ := get_of_lt hi
      have hgd : x.lines.getD line.toNat [] = l := by rw [List.getD_eq_getElem?_getD, hl]; rfl
      obtain ⟨p1, p2, p3⟩ := lineFeed_in (t := t) bs (s := 0) (h.ln l (List.mem_of_getElem? hl)) (by omega) (by omega) (by omega) hb
      have hs := held_set x.lines line.toNat (lineFeed t l bs).1 hi
      rw [hgd] at hs ⊢
      have hlf : lineFeed t l bs = bs.foldl (lineAdd t) (l, 0) := rfl
      rw [← hlf] at p1 p2 p3
      have hsp := h.sp0
      refine ⟨h.cfg, by simp only [List.length_set]; exact hnl, ?_, ?_, hck, h.ck1, by simp only; omega, by simp only; omega, by simp only; omega⟩
      · intro y hy
        simp only at hy
        rcases List.mem_or_eq_of_mem_set hy with hy | rfl
        · have := h.ln y hy
          exact ⟨this.len, this.tk, fun f hf => ⟨(this.fd f hf).1, by have := (this.fd f hf).2; simp only; omega⟩⟩
        · exact p1
      · have r := h.rd
        refine ⟨r.nj, r.nd, r.jb, r.dn, r.d0, r.l0, r.u0, r.b0, ?_⟩
        have := r.tot
        simp only at this ⊢
        rw [hs]
        omega
  · simpa using h

end Go.Proofs.Ythloffgebebijaa
