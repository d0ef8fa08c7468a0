/- ComA: tillerkeep's comes in plain numbers: a house (an executive, what was fed, what happened), what a message that comes makes of it. No function of the program is named here. -/
import Derived.Test.YthloffgebebijaaPlainA
import Derived.Test.YthloffgebebijaaPickA
namespace Go.Proofs.Ythloffgebebijaa
open Go.RowKit

/-- The four bytes of a message. -/
def msgC (task cost : Int) : List Int := [126, task, cost, ((((task.toNat ^^^ cost.toNat) ^^^ 85 : Nat)) : Int)]
/-- A message that comes, raw. -/
structure Come5 where
  task : Int
  gap : Int
  line : Int
  cost : Int
  split : Bool
def Come5.fits (o : Come5) : Prop := In64 o.task ∧ In64 o.gap ∧ In64 o.line ∧ In64 o.cost

/-- A house, plain: what was sent is a task and a tick. -/
structure Hs where
  x : Exs
  last : Int
  sent : List (Int × Int)
  done : List Ev

def limsOf (c : Cfg) (k : Int) : List (Int × Int) := (c.tasks.map Tk.lims).getD k.toNat []
def costOf (c : Cfg) (k : Int) : Int := (c.tasks.map Tk.cost).getD k.toNat 0
/-- The ticks at which messages of a task were sent. -/
def ticksOf (sent : List (Int × Int)) (k : Int) : List Int := (sent.filter fun s => decide (s.1 = k)).map (·.2)
/-- One limit: a message comes no sooner than it lets it. -/
def limUp (l : List Int) (t : Int) (x : Int × Int) : Int := if x.2 ≤ (l.length : Int) then max t (l.getD (l.length - x.2.toNat) 0 + x.1) else t
/-- The first tick from t on at which a message of a task may come. -/
def soonI (c : Cfg) (sent : List (Int × Int)) (k t : Int) : Int := (limsOf c k).foldl (limUp (ticksOf sent k)) t
def settle (tame : Bool) (c : Cfg) (sent : List (Int × Int)) (k ck a : Int) : Int := if tame then soonI c sent k (max a ck) else max a ck

def Hs.run (h : Hs) (u : Int) : Hs := ⟨(exRun u 3000 h.x).1, h.last, h.sent, h.done ++ (exRun u 3000 h.x).2⟩
def Hs.feed (h : Hs) (line t : Int) (bs : List Int) : Hs := ⟨(exFeed h.x line t bs).1, h.last, h.sent, h.done⟩
/-- The executive runs on, till the message is near and there is room on the lines. -/
def waits (tame : Bool) (c : Cfg) (k : Int) : Nat → Hs → Int → Hs × Int
  | 0, h, a => (h, a)
  | f + 1, h, a =>
    if settle tame c h.sent k h.x.clock a ≤ h.x.clock + 80 ∧ held h.x.lines ≤ 16 then (h, settle tame c h.sent k h.x.clock a)
    else waits tame c k f (h.run (h.x.clock + 1)) (settle tame c h.sent k h.x.clock a)
def kOf (c : Cfg) (o : Come5) : Int := pk o.task c.tasks.length
def lineOf (c : Cfg) (o : Come5) : Int := pk o.line c.lines
def priceOf (tame : Bool) (c : Cfg) (o : Come5) : Int := 1 + pk o.cost (if tame then costOf c (kOf c o) else 255)
/-- It is fed at a. -/
def sends (tame : Bool) (c : Cfg) (o : Come5) (h : Hs) (a : Int) : Hs :=
  let g := if o.split then (h.feed (lineOf c o) (max h.last h.x.clock) ((msgC (kOf c o) (priceOf tame c o)).take 2)).feed (lineOf c o) a ((msgC (kOf c o) (priceOf tame c o)).drop 2) else h.feed (lineOf c o) a (msgC (kOf c o) (priceOf tame c o))
  ⟨g.x, a, g.sent ++ [(kOf c o, a)], g.done⟩
/-- A message comes. -/
def comes (tame : Bool) (c : Cfg) (o : Come5) (h : Hs) : Hs :=
  let p := waits tame c (kOf c o) 400 h (h.last + pk o.gap 60)
  let a := settle tame c p.1.sent (kOf c o) p.1.x.clock p.2
  if 900 ≤ a then p.1 else sends tame c o p.1 a

/-- What stands in a house: N bytes were fed. -/
structure HsIn (c : Cfg) (N : Int) (h : Hs) : Prop where
  ex : ExIn h.x N
  cf : h.x.cfg = c
  fd : h.x.fed ≤ h.last
  l0 : 0 ≤ h.last
  l1 : h.last < 900
  dl : (h.done.length : Int) ≤ 34 * h.x.clock
  st : ∀ s ∈ h.sent, 0 ≤ s.2 ∧ s.2 < 900

theorem HsIn.run {c : Cfg} {N : Int} {h : Hs} (hi : HsIn c N h) (u : Int) : HsIn c N (h.run u) := by
  obtain ⟨t1, t2, t3, t4, t5, t6, t7⟩ := exRun_cnt u 3000 hi.ex
  refine ⟨exRun_in u 3000 hi.ex, t7.trans hi.cf, by have := hi.fd; simp only [Hs.run]; omega, hi.l0, hi.l1, ?_, hi.st⟩
  have := hi.dl
  simp only [Hs.run, List.length_append]
  omega
theorem limUp_ge (l : List Int) (t : Int) (x : Int × Int) : t ≤ limUp l t x := by unfold limUp; split <;> omega
theorem foldUp_ge (l : List Int) : ∀ (xs : List (Int × Int)) (t : Int), t ≤ xs.foldl (limUp l) t
  | [], t => Int.le_refl _
  | x :: xs, t => by rw [List.foldl_cons]; exact Int.le_trans (limUp_ge l t x) (foldUp_ge l xs _)
theorem settle_ge (tame : Bool) (c : Cfg) (sent : List (Int × Int)) (k ck a : Int) : a ≤ settle tame c sent k ck a ∧ ck ≤ settle tame c sent k ck a := by
  unfold settle soonI
  split
  · have := foldUp_ge (ticksOf sent k) (limsOf c k) (max a ck)
    omega
  · omega
theorem foldUp_le (l : List Int) (hl : ∀ y ∈ l, 0 ≤ y ∧ y < 900) : ∀ (xs : List (Int × Int)) (t : Int), (∀ x ∈ xs, x.1 ≤ 500) → t ≤ 5000 → xs.foldl (limUp l) t ≤ 5000
  | [], t, _, h => h
  | x :: xs, t, hx, h => by
    rw [List.foldl_cons]
    refine foldUp_le l hl xs _ (fun y hy => hx y (by simp [hy])) ?_
    have h1 := hx x (by simp)
    unfold limUp
    split
    · have h2 : l.getD (l.length - x.2.toNat) 0 < 900 := by
        rw [List.getD_eq_getElem?_getD]
        cases hg : l[l.length - x.2.toNat]? with
        | none => simp
        | some y => exact (hl y (List.mem_of_getElem? hg)).2
      omega
    · exact h
theorem vl_le : ∀ (ls : List (Int × Int)) (p : Int × Int), 0 ≤ p.1 → 0 ≤ p.2 → vl p ls = true → ∀ x ∈ ls, 1 ≤ x.1 ∧ x.1 ≤ 500 ∧ 1 ≤ x.2 ∧ x.2 ≤ 20
  | [], _, _, _, _, x, hx => by simp at hx
  | l :: r, p, h1, h2, h, x, hx => by
    simp only [vl, Bool.and_eq_true, decide_eq_true_eq] at h
    rcases List.mem_cons.1 hx with rfl | hx
    · omega
    · exact vl_le r l (by omega) (by omega) h.2.2 x hx
theorem limsOf_in {c : Cfg} (h : cfgOk c = true) (k : Int) : ∀ x ∈ limsOf c k, 1 ≤ x.1 ∧ x.1 ≤ 500 ∧ 1 ≤ x.2 ∧ x.2 ≤ 20 := by
  intro x hx
  unfold limsOf at hx
  rw [List.getD_eq_getElem?_getD, List.getElem?_map] at hx
  cases hg : c.tasks[k.toNat]? with
  | none => rw [hg] at hx; simp at hx
  | some t =>
    rw [hg] at hx
    simp only [Option.map_some, Option.getD_some] at hx
    simp only [cfgOk, tasksOk, Bool.and_eq_true, decide_eq_true_eq, List.all_eq_true] at h
    have := h.2.2.2.2.2.2 t (List.mem_of_getElem? hg)
    simp only [taskOk, limsOk, Bool.and_eq_true, decide_eq_true_eq] at this
    exact vl_le _ _ (Int.le_refl _) (Int.le_refl _) this.2.2.2 x hx
theorem ticksOf_in {sent : List (Int × Int)} (h : ∀ s ∈ sent, 0 ≤ s.2 ∧ s.2 < 900) (k : Int) : ∀ y ∈ ticksOf sent k, 0 ≤ y ∧ y < 900 := by
  intro y hy
  obtain ⟨s, hs, rfl⟩ := List.mem_map.1 hy
  exact h s (List.mem_filter.1 hs).1
theorem settle_le {tame : Bool} {c : Cfg} {sent : List (Int × Int)} {k ck a : Int} (hc : cfgOk c = true) (h : ∀ s ∈ sent, 0 ≤ s.2 ∧ s.2 < 900) (ha : a ≤ 5000) (hk : ck ≤ 5000) : settle tame c sent k ck a ≤ 5000 := by
  unfold settle soonI
  split
  · exact foldUp_le _ (ticksOf_in h k) _ _ (fun x hx => (limsOf_in hc k x hx).2.1) (by omega)
  · omega

theorem waits_in {tame : Bool} {c : Cfg} {k : Int} {N : Int} : ∀ (f : Nat) {h : Hs} {a : Int}, HsIn c N h → h.last ≤ a → a ≤ 5000 → HsIn c N (waits tame c k f h a).1 ∧ (waits tame c k f h a).1.last ≤ (waits tame c k f h a).2 ∧ (waits tame c k f h a).2 ≤ 5000 ∧ (waits tame c k f h a).1.sent = h.sent ∧ (waits tame c k f h a).1.last = h.last
  | 0, h, a, hi, h0, h1 => ⟨hi, h0, h1, rfl, rfl⟩
  | f + 1, h, a, hi, h0, h1 => by
    have s1 := settle_ge tame c h.sent k h.x.clock a
    have s2 := settle_le (tame := tame) (k := k) (ck := h.x.clock) (by have := hi.ex.cfg; rw [hi.cf] at this; exact this) hi.st h1 (by have := hi.ex.ck1; omega)
    unfold waits
    split
    · exact ⟨hi, by simp only; omega, s2, rfl, rfl⟩
    · exact waits_in f (hi.run _) (by simp only [Hs.run]; omega) s2

theorem HsIn.feed {c : Cfg} {N : Int} {h : Hs} (hi : HsIn c N h) {line t : Int} {bs : List Int} (hl : 0 ≤ line ∧ line < c.lines) (ht : h.x.clock ≤ t ∧ h.x.fed ≤ t ∧ t < 1000) (hb : ∀ b ∈ bs, 0 ≤ b ∧ b < 256) : (exFeed h.x line t bs).2 = 0 ∧ ExIn (h.feed line t bs).x (N + bs.length) ∧ (h.feed line t bs).x.cfg = c ∧ (h.feed line t bs).x.fed = t ∧ (h.feed line t bs).x.clock = h.x.clock := by
  have hcf := hi.cf
  have e : (exFeed h.x line t bs).2 = 0 ∧ (exFeed h.x line t bs).1.cfg = h.x.cfg ∧ (exFeed h.x line t bs).1.fed = t ∧ (exFeed h.x line t bs).1.clock = h.x.clock := by
    unfold exFeed
    rw [if_pos (by rw [hcf]; omega), if_neg (by omega)]
    exact ⟨rfl, rfl, rfl, rfl⟩
  have hin := exFeed_in (line := line) (t := t) hi.ex hb
  rw [if_pos e.1] at hin
  exact ⟨e.1, hin, e.2.1.trans hcf, e.2.2.1, e.2.2.2⟩
theorem msgC_in {task cost : Int} (ht : 0 ≤ task ∧ task < 256) (hc : 0 ≤ cost ∧ cost < 256) : ∀ b ∈ msgC task cost, 0 ≤ b ∧ b < 256 := by
  intro b hb
  simp only [msgC, List.mem_cons, List.not_mem_nil, or_false] at hb
  have hx : (task.toNat ^^^ cost.toNat) ^^^ 85 < 2 ^ 8 := Nat.xor_lt_two_pow (Nat.xor_lt_two_pow (by omega) (by omega)) (by omega)
  rcases hb with rfl | rfl | rfl | rfl
  · decide
  · exact ht
  · exact hc
  · omega
theorem kOf_in {c : Cfg} (h : cfgOk c = true) (o : Come5) : 0 ≤ kOf c o ∧ kOf c o < c.tasks.length := by
  obtain ⟨_, _, _, _, _, ⟨h1, h2⟩, _⟩ := cfgNum h
  exact ⟨pk_lo _ _ (by omega), pk_hi _ _ (by omega)⟩
theorem lineOf_in {c : Cfg} (h : cfgOk c = true) (o : Come5) : 0 ≤ lineOf c o ∧ lineOf c o < c.lines := by
  obtain ⟨⟨h1, h2⟩, _⟩ := cfgNum h
  exact ⟨pk_lo _ _ (by omega), pk_hi _ _ (by omega)⟩
theorem costOf_in {c : Cfg} (h : cfgOk c = true) {k : Int} (_h0 : 0 ≤ k) (h1 : k < c.tasks.length) : 1 ≤ costOf c k ∧ costOf c k ≤ 50 := by
  simp only [cfgOk, tasksOk, Bool.and_eq_true, decide_eq_true_eq, List.all_eq_true] at h
  obtain ⟨t, ht⟩ := get_of_lt (l := c.tasks) (k := k.toNat) (by omega)
  have := h.2.2.2.2.2.2 t (List.mem_of_getElem? ht)
  simp only [taskOk, limsOk, Bool.and_eq_true, decide_eq_true_eq] at this
  have e : costOf c k = t.cost := by simp [costOf, ht]
  rw [e]
  exact this.1
theorem priceOf_in {c : Cfg} (h : cfgOk c = true) (tame : Bool) (o : Come5) : 1 ≤ priceOf tame c o ∧ priceOf tame c o ≤ 255 ∧ (tame = true → priceOf tame c o ≤ costOf c (kOf c o)) := by
  have hk := kOf_in h o
  have hc := costOf_in h hk.1 hk.2
  unfold priceOf
  cases tame
  · have := pk_lo o.cost 255 (by decide)
    have := pk_hi o.cost 255 (by decide)
    simp; omega
  · have := pk_lo o.cost (costOf c (kOf c o)) (by omega)
    have := pk_hi o.cost (costOf c (kOf c o)) (by omega)
    simp; omega

/-- A property of executives and events that Feed and Run keep is kept when a message comes. -/
theorem sends_in {tame : Bool} {c : Cfg} {N : Int} {o : Come5} {h : Hs} {a : Int} (hi : HsIn c N h) (ha : h.x.clock ≤ a ∧ h.last ≤ a ∧ a < 900) : HsIn c (N + 4) (sends tame c o h a) ∧ (∀ P : Exs → Prop, P h.x → (∀ x line t bs, P x → (exFeed x line t bs).2 = 0 → P (exFeed x line t bs).1) → P (sends tame c o h a).x) ∧ (o.split = true → (exFeed h.x (lineOf c o) (max h.last h.x.clock) ((msgC (kOf c o) (priceOf tame c o)).take 2)).2 = 0 ∧ (exFeed (exFeed h.x (lineOf c o) (max h.last h.x.clock) ((msgC (kOf c o) (priceOf tame c o)).take 2)).1 (lineOf c o) a ((msgC (kOf c o) (priceOf tame c o)).drop 2)).2 = 0) ∧ (o.split = false → (exFeed h.x (lineOf c o) a (msgC (kOf c o) (priceOf tame c o))).2 = 0) := by
  have hok : cfgOk c = true := by have := hi.ex.cfg; rw [hi.cf] at this; exact this
  have hk := kOf_in hok o
  have hl := lineOf_in hok o
  have hp := priceOf_in hok tame o
  obtain ⟨_, _, _, _, _, ⟨n1, n2⟩, _⟩ := cfgNum hok
  have hm := msgC_in (task := kOf c o) (cost := priceOf tame c o) ⟨by omega, by omega⟩ ⟨by omega, by omega⟩
  have hfd := hi.fd
  have hst : ∀ s ∈ h.sent ++ [(kOf c o, a)], 0 ≤ s.2 ∧ s.2 < 900 := by
    intro s hs
    rcases List.mem_append.1 hs with hs | hs
    · exact hi.st s hs
    · simp only [List.mem_cons, List.not_mem_nil, or_false] at hs
      subst hs
      have := hi.l0
      simp only
      omega
  cases hs : o.split
  · obtain ⟨e1, e2, e3, e4, e5⟩ := hi.feed (line := lineOf c o) (t := a) hl ⟨by omega, by omega, by omega⟩ hm
    refine ⟨⟨?_, ?_, ?_, ?_, ?_, ?_, ?_⟩, fun P hP hF => ?_, by simp, fun _ => e1⟩
    · simp only [sends, hs, Bool.false_eq_true, if_false]
      exact e2
    · simp only [sends, hs, Bool.false_eq_true, if_false]
      exact e3
    · simp only [sends, hs, Bool.false_eq_true, if_false]
      omega
    · have := hi.l0; simp only [sends]; omega
    · simp only [sends]; omega
    · have := hi.dl; simp only [sends, hs, Bool.false_eq_true, if_false, e5]; exact this
    · simp only [sends, hs, Bool.false_eq_true, if_false]; exact hst
    · simp only [sends, hs, Bool.false_eq_true, if_false]
      exact hF _ _ _ _ hP e1
  · obtain ⟨e1, e2, e3, e4, e5⟩ := hi.feed (line := lineOf c o) (t := max h.last h.x.clock) (bs := (msgC (kOf c o) (priceOf tame c o)).take 2) hl ⟨by omega, by omega, by omega⟩ (fun b hb => hm b (List.mem_of_mem_take hb))
    have hi2 : HsIn c (N + 2) { h.feed (lineOf c o) (max h.last h.x.clock) ((msgC (kOf c o) (priceOf tame c o)).take 2) with last := a } := ⟨by simpa [msgC] using e2, e3, by simp only; omega, by have := hi.l0; simp only; omega, by simp only; omega, by have := hi.dl; simp only [e5]; exact this, hi.st⟩
    obtain ⟨f1, f2, f3, f4, f5⟩ := hi2.feed (line := lineOf c o) (t := a) (bs := (msgC (kOf c o) (priceOf tame c o)).drop 2) hl ⟨by simp only [e5]; omega, by simp only [e4]; omega, by omega⟩ (fun b hb => hm b (List.mem_of_mem_drop hb))
    refine ⟨⟨?_, ?_, ?_, ?_, ?_, ?_, ?_⟩, fun P hP hF => ?_, fun _ => ⟨e1, f1⟩, by simp⟩
    · simp only [sends, hs, if_true]
      have : N + 2 + (((msgC (kOf c o) (priceOf tame c o)).drop 2).length : Int) = N + 4 := by simp [msgC]; omega
      rw [← this]
      exact f2
    · simp only [sends, hs, if_true]
      exact f3
    · simp only [sends, hs, if_true]
      have : ((h.feed (lineOf c o) (max h.last h.x.clock) ((msgC (kOf c o) (priceOf tame c o)).take 2)).feed (lineOf c o) a ((msgC (kOf c o) (priceOf tame c o)).drop 2)).x.fed = a := f4
      omega
    · have := hi.l0; simp only [sends]; omega
    · simp only [sends]; omega
    · have := hi.dl
      have h5 : ((h.feed (lineOf c o) (max h.last h.x.clock) ((msgC (kOf c o) (priceOf tame c o)).take 2)).feed (lineOf c o) a ((msgC (kOf c o) (priceOf tame c o)).drop 2)).x.clock = h.x.clock := f5.trans e5
      simp only [sends, hs, if_true, h5]; exact this
    · simp only [sends, hs, if_true]; exact hst
    · simp only [sends, hs, if_true]
      exact hF _ _ _ _ (hF _ _ _ _ hP e1) f1

theorem waits_keep {tame : Bool} {c : Cfg} {k : Int} {N : Int} (P : Hs → Prop) (hr : ∀ h u, HsIn c N h → P h → P (h.run u)) : ∀ (f : Nat) {h : Hs} {a : Int}, HsIn c N h → P h → P (waits tame c k f h a).1
  | 0, h, a, _, hp => hp
  | f + 1, h, a, hi, hp => by
    unfold waits
    split
    · exact hp
    · exact waits_keep P hr f (hi.run _) (hr _ _ hi hp)

/-- What a message that comes keeps. -/
theorem comes_in {tame : Bool} {c : Cfg} {N : Int} {o : Come5} {h : Hs} (hi : HsIn c N h) : HsIn c N (comes tame c o h) ∨ HsIn c (N + 4) (comes tame c o h) := by
  have g0 := pk_lo o.gap 60 (by decide)
  have g1 := pk_hi o.gap 60 (by decide)
  have l1 := hi.l1
  obtain ⟨w1, w2, w3, w4, w5⟩ := waits_in (tame := tame) (k := kOf c o) 400 (a := h.last + pk o.gap 60) hi (by omega) (by omega)
  have s1 := settle_ge tame c (waits tame c (kOf c o) 400 h (h.last + pk o.gap 60)).1.sent (kOf c o) (waits tame c (kOf c o) 400 h (h.last + pk o.gap 60)).1.x.clock (waits tame c (kOf c o) 400 h (h.last + pk o.gap 60)).2
  unfold comes
  simp only
  split
  · exact .inl w1
  · exact .inr (sends_in w1 ⟨by omega, by omega, by omega⟩).1
theorem comes_wh {tame : Bool} {c : Cfg} {N : Int} {o : Come5} {h : Hs} (hi : HsIn c N h) (hw : WhP c h.x h.done) : WhP c (comes tame c o h).x (comes tame c o h).done := by
  have g0 := pk_lo o.gap 60 (by decide)
  have g1 := pk_hi o.gap 60 (by decide)
  have l1 := hi.l1
  obtain ⟨w1, w2, w3, w4, w5⟩ := waits_in (tame := tame) (k := kOf c o) 400 (a := h.last + pk o.gap 60) hi (by omega) (by omega)
  have s1 := settle_ge tame c (waits tame c (kOf c o) 400 h (h.last + pk o.gap 60)).1.sent (kOf c o) (waits tame c (kOf c o) 400 h (h.last + pk o.gap 60)).1.x.clock (waits tame c (kOf c o) 400 h (h.last + pk o.gap 60)).2
  have hk := waits_keep (tame := tame) (k := kOf c o) (N := N) (c := c) (fun g => WhP c g.x g.done) (fun g u hg hp => exRun_wh u 3000 hp hg.ex) 400 (a := h.last + pk o.gap 60) hi hw
  unfold comes
  simp only
  split
  · exact hk
  · have hd : ∀ g a, (sends tame c o g a).done = g.done := by
      intro g a
      simp only [sends]
      split <;> rfl
    rw [hd]
    exact (sends_in w1 ⟨by omega, by omega, by omega⟩).2.1 (fun x => WhP c x _) hk fun x line t bs hp h0 => exFeed_wh hp h0

end Go.Proofs.Ythloffgebebijaa
