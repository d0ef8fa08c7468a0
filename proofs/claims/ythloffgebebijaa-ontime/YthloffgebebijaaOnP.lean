/- OnA: how many messages can come in some ticks one behind the other, if they keep to the limits. No function of the program is named here. -/
import Derived.Test.YthloffgebebijaaAheadK
import Derived.Test.YthloffgebebijaaComA
namespace Go.Proofs.Ythloffgebebijaa
open Go.RowKit

/-- In no Window ticks more than Count. -/
def Limd (l : List Int) (x : Int × Int) : Prop := ∀ t, ((l.countP fun y => decide (t ≤ y) && decide (y < t + x.1) : Nat) : Int) ≤ x.2
/-- How many there are behind s, up to e. -/
def within (s e : Int) (l : List Int) : Nat := l.countP fun y => decide (s < y) && decide (y ≤ e)
theorem within_mono {s e e' : Int} (h : e ≤ e') (l : List Int) : within s e l ≤ within s e' l := by
  unfold within
  refine List.countP_mono_left fun y _ hy => ?_
  simp at hy ⊢
  omega
theorem within_split {s m e : Int} (l : List Int) : within s e l ≤ within s m l + within m e l := by
  unfold within
  induction l with
  | nil => simp
  | cons y l ih =>
    simp only [List.countP_cons]
    by_cases h1 : (decide (s < y) && decide (y ≤ e)) = true
    · rw [if_pos h1]
      simp at h1
      by_cases h2 : y ≤ m
      · rw [if_pos (show (decide (s < y) && decide (y ≤ m)) = true by simp; omega)]
        omega
      · rw [if_pos (show (decide (m < y) && decide (y ≤ e)) = true by simp; omega)]
        omega
    · rw [if_neg h1]
      omega
theorem within_windows {l : List Int} {x : Int × Int} (h : Limd l x) (h1 : 1 ≤ x.1) (s : Int) : ∀ q : Nat, (within s (s + q * x.1) l : Int) ≤ q * x.2
  | 0 => by
    have : within s (s + ((0 : Nat) : Int) * x.1) l = 0 := by
      unfold within
      rw [List.countP_eq_zero]
      intro y _
      simp
    rw [this]
    simp
  | q + 1 => by
    have ih := within_windows h h1 s q
    have hs := within_split (s := s) (m := s + q * x.1) (e := s + ((q + 1 : Nat) : Int) * x.1) l
    have hw := h (s + q * x.1 + 1)
    have he : within (s + q * x.1) (s + ((q + 1 : Nat) : Int) * x.1) l ≤ l.countP fun y => decide (s + q * x.1 + 1 ≤ y) && decide (y < s + q * x.1 + 1 + x.1) := by
      unfold within
      refine List.countP_mono_left fun y _ hy => ?_
      have e : ((q + 1 : Nat) : Int) * x.1 = q * x.1 + x.1 := by rw [Int.natCast_add, Int.add_mul]; simp
      rw [e] at hy
      simp at hy ⊢
      omega
    have e2 : ((q + 1 : Nat) : Int) * x.2 = q * x.2 + x.2 := by rw [Int.natCast_add, Int.add_mul]; simp
    rw [e2]
    omega
theorem within_atMost {l : List Int} {x : Int × Int} (h : Limd l x) (h1 : 1 ≤ x.1) {s e : Int} (hk : 1 ≤ e - s) : (within s e l : Int) ≤ atMostI x (e - s) := by
  have hq : 0 ≤ (e - s + x.1 - 1).tdiv x.1 := Int.tdiv_nonneg (by omega) (by omega)
  obtain ⟨q, hq'⟩ : ∃ q : Nat, (e - s + x.1 - 1).tdiv x.1 = q := ⟨_, (Int.toNat_of_nonneg hq).symm⟩
  have hle : e - s ≤ q * x.1 := by
    rw [← hq', Int.tdiv_eq_ediv_of_nonneg (by omega)]
    have h1' := Int.emod_add_mul_ediv (e - s + x.1 - 1) x.1
    have h2 := Int.emod_lt_of_pos (e - s + x.1 - 1) (show 0 < x.1 by omega)
    rw [Int.mul_comm]
    omega
  have h3 := within_windows h h1 s q
  have h4 := within_mono (s := s) (e := e) (e' := s + q * x.1) (by omega) l
  unfold atMostI
  rw [hq', Int.mul_comm]
  omega
theorem foldl_min_ge {k v : Int} : ∀ (r : List (Int × Int)) (m : Int), v ≤ m → (∀ x ∈ r, v ≤ atMostI x k) → v ≤ r.foldl (fun m l => min m (atMostI l k)) m
  | [], _, h, _ => h
  | x :: r, m, h, hx => by
    rw [List.foldl_cons]
    have := hx x (by simp)
    exact foldl_min_ge r _ (by omega) fun y hy => hx y (by simp [hy])
theorem within_most {t : Tk} {l : List Int} (h : ∀ x ∈ t.lims, Limd l x) (hl : LimsIn t.lims) (hne : t.lims ≠ []) (s e : Int) : (within s e l : Int) ≤ mostI t (e - s) := by
  unfold mostI
  split
  · have : within s e l = 0 := by
      unfold within
      rw [List.countP_eq_zero]
      intro y _
      simp
      omega
    rw [this]
    simp
  · cases hl' : t.lims with
    | nil => exact absurd hl' hne
    | cons x r =>
      rw [hl'] at h hl
      have hx : ∀ y ∈ x :: r, (within s e l : Int) ≤ atMostI y (e - s) := fun y hy => within_atMost (h y hy) (hl y hy).1 (by omega)
      simp only [mostL]
      exact foldl_min_ge r _ (hx x (by simp)) fun y hy => hx y (by simp [hy])

/-- One more, no sooner than the limit lets it. -/
theorem Limd.snoc {l : List Int} {x : Int × Int} {a : Int} (h : Limd l x) (hs : l.Pairwise (· ≤ ·)) (h2 : 1 ≤ x.2) (ha : x.2 ≤ (l.length : Int) → l.getD (l.length - x.2.toNat) 0 + x.1 ≤ a) : Limd (l ++ [a]) x := by
  intro t
  rw [List.countP_append]
  by_cases hin : t ≤ a ∧ a < t + x.1
  · have h1 : [a].countP (fun y => decide (t ≤ y) && decide (y < t + x.1)) = 1 := by simp [hin.1, hin.2]
    rw [h1]
    by_cases hc : x.2 ≤ (l.length : Int)
    · have ha' := ha hc
      generalize hp : l.length - x.2.toNat = p at ha'
      have hpl : p < l.length := by omega
      have hv : l.getD p 0 = l[p] := by rw [List.getD_eq_getElem?_getD, List.getElem?_eq_getElem hpl]; rfl
      rw [hv] at ha'
      have hsp : l = l.take (p + 1) ++ l.drop (p + 1) := (List.take_append_drop _ _).symm
      have h0 : (l.take (p + 1)).countP (fun y => decide (t ≤ y) && decide (y < t + x.1)) = 0 := by
        rw [List.countP_eq_zero]
        intro y hy
        obtain ⟨j, hj, rfl⟩ := List.mem_take_iff_getElem.1 hy
        have hjp : l[j] ≤ l[p] := by
          rcases Nat.lt_or_ge j p with hlt | hge
          · exact List.pairwise_iff_getElem.1 hs j p (by omega) hpl hlt
          · have : j = p := by omega
            subst this
            exact Int.le_refl _
        simp
        omega
      have h3 : (l.drop (p + 1)).countP (fun y => decide (t ≤ y) && decide (y < t + x.1)) ≤ (l.drop (p + 1)).length := List.countP_le_length
      rw [List.length_drop] at h3
      rw [hsp, List.countP_append, h0]
      omega
    · have h3 : l.countP (fun y => decide (t ≤ y) && decide (y < t + x.1)) ≤ l.length := List.countP_le_length
      omega
  · have h1 : [a].countP (fun y => decide (t ≤ y) && decide (y < t + x.1)) = 0 := by
      rw [List.countP_eq_zero]
      intro y hy
      simp at hy
      subst hy
      simp
      omega
    rw [h1]
    have := h t
    omega

end Go.Proofs.Ythloffgebebijaa

/- OnB: the one that must be done first is done first: a job that waits is done within its task's bound, and what waits finds room. No function of the program is named here. -/
namespace Go.Proofs.Ythloffgebebijaa
open Go.RowKit

/-- What a task's job takes at the most. -/
def prOf (c : Cfg) (k : Int) : Int := c.poll + c.sw + costOf c k
def boundOf (c : Cfg) (k : Int) : Int := (c.tasks.map (boundI c)).getD k.toNat 0
/-- The deadline of a message: its task, its tick. -/
def dlOf (c : Cfg) (m : Int × Int) : Int := m.2 + dueOf c m.1
def sumP (c : Cfg) (G : List (Int × Int)) : Int := (G.map fun m => prOf c m.1).sum
/-- A sum over tasks, with their places. -/
def sumT (f : Nat → Tk → Int) : List Tk → Nat → Int
  | [], _ => 0
  | t :: ts, i => f i t + sumT f ts (i + 1)
theorem foldl_sumT (f : Tk → Int) : ∀ (ts : List Tk) (i : Nat) (s : Int), ts.foldl (fun s t => s + f t) s = s + sumT (fun _ t => f t) ts i
  | [], _, s => by simp [sumT]
  | t :: ts, i, s => by rw [List.foldl_cons, foldl_sumT f ts (i + 1), sumT]; omega
theorem sumT_le {f g : Nat → Tk → Int} : ∀ (ts : List Tk) (i : Nat), (∀ j t, ts[j]? = some t → f (i + j) t ≤ g (i + j) t) → sumT f ts i ≤ sumT g ts i
  | [], _, _ => Int.le_refl _
  | t :: ts, i, h => by
    have h0 := h 0 t rfl
    have h1 := sumT_le (f := f) (g := g) ts (i + 1) fun j t' hj => by
      have := h (j + 1) t' (by simpa using hj)
      rw [show i + (j + 1) = i + 1 + j from by omega] at this
      exact this
    simp only [sumT, Nat.add_zero] at h0 ⊢
    omega
theorem sumT_zero : ∀ (ts : List Tk) (i : Nat) (g : Nat → Tk → Int), (∀ j t, ts[j]? = some t → g (i + j) t = 0) → sumT g ts i = 0
  | [], _, _, _ => rfl
  | t :: ts, i, g, h => by
    have h0 := h 0 t rfl
    have h1 := sumT_zero ts (i + 1) g fun j t' hj => by
      have := h (j + 1) t' (by simpa using hj)
      rw [show i + (j + 1) = i + 1 + j from by omega] at this
      exact this
    simp only [sumT, Nat.add_zero] at h0 ⊢
    omega
/-- One term of a sum is taken out. -/
theorem sumT_one {f : Nat → Tk → Int} {v : Tk → Int} : ∀ (ts : List Tk) (i k : Nat) (t : Tk), ts[k]? = some t → sumT (fun j t => f j t + (if j = i + k then v t else 0)) ts i = sumT f ts i + v t
  | [], _, _, _, h => by simp at h
  | u :: ts, i, 0, t, h => by
    simp at h
    subst h
    simp only [sumT, Nat.add_zero, if_true]
    have : sumT (fun j t => f j t + (if j = i then v t else 0)) ts (i + 1) = sumT f ts (i + 1) := by
      have aux : ∀ (ts : List Tk) (m : Nat), i < m → sumT (fun j t => f j t + (if j = i then v t else 0)) ts m = sumT f ts m := by
        intro ts
        induction ts with
        | nil => intro m _; rfl
        | cons x xs ih =>
          intro m hm
          simp only [sumT]
          rw [if_neg (by omega), ih (m + 1) (by omega)]
          omega
      exact aux ts (i + 1) (by omega)
    rw [this]
    omega
  | u :: ts, i, k + 1, t, h => by
    simp only [sumT]
    rw [if_neg (by omega)]
    have := sumT_one (f := f) (v := v) ts (i + 1) k t (by simpa using h)
    rw [show i + (k + 1) = i + 1 + k from by omega, this]
    omega

/-- How many of a task there are. -/
def ofTask (k : Int) (G : List (Int × Int)) : Int := (G.countP fun m => decide (m.1 = k) : Nat)
def TaskIn (c : Cfg) (m : Int × Int) : Prop := 0 ≤ m.1 ∧ m.1 < c.tasks.length
theorem prOf_price {c : Cfg} {k : Nat} {t : Tk} (h : c.tasks[k]? = some t) : prOf c (k : Int) = priceI c t := by simp [prOf, costOf, priceI, h]
theorem sumP_tasks {c : Cfg} : ∀ (G : List (Int × Int)), (∀ m ∈ G, TaskIn c m) → sumP c G = sumT (fun i t => ofTask i G * priceI c t) c.tasks 0
  | [], _ => by
    rw [sumT_zero]
    · rfl
    · intro j t _
      simp [ofTask]
  | m :: G, h => by
    have ih := sumP_tasks G fun x hx => h x (by simp [hx])
    obtain ⟨h0, h1⟩ := h m (by simp)
    obtain ⟨k, hk⟩ : ∃ k : Nat, m.1 = k := ⟨m.1.toNat, by omega⟩
    obtain ⟨t, ht⟩ := get_of_lt (l := c.tasks) (k := k) (by omega)
    have h2 : sumP c (m :: G) = sumP c G + priceI c t := by
      simp only [sumP, List.map_cons, List.sum_cons]
      rw [hk, prOf_price ht]
      omega
    have h3 := sumT_one (f := fun i t => ofTask i G * priceI c t) (v := priceI c) c.tasks 0 k t ht
    rw [h2, ih, ← h3]
    congr 1
    funext j u
    have : ofTask (j : Int) (m :: G) = ofTask j G + (if j = 0 + k then 1 else 0) := by
      unfold ofTask
      rw [List.countP_cons]
      by_cases hj : j = k
      · subst hj
        simp [hk]
      · have : ¬ m.1 = (j : Int) := by omega
        simp [this, hj]
    rw [this]
    split
    · rw [Int.add_mul]; simp
    · simp
theorem length_tasks {c : Cfg} : ∀ (G : List (Int × Int)), (∀ m ∈ G, TaskIn c m) → (G.length : Int) = sumT (fun i _ => ofTask i G) c.tasks 0
  | [], _ => by
    rw [sumT_zero]
    · rfl
    · intro j t _
      simp [ofTask]
  | m :: G, h => by
    have ih := length_tasks G fun x hx => h x (by simp [hx])
    obtain ⟨h0, h1⟩ := h m (by simp)
    obtain ⟨k, hk⟩ : ∃ k : Nat, m.1 = k := ⟨m.1.toNat, by omega⟩
    obtain ⟨t, ht⟩ := get_of_lt (l := c.tasks) (k := k) (by omega)
    have h3 := sumT_one (f := fun i (_ : Tk) => ofTask i G) (v := fun _ => 1) c.tasks 0 k t ht
    have h2 : ((m :: G).length : Int) = (G.length : Int) + 1 := by simp
    rw [h2, ih, ← h3]
    congr 1
    funext j u
    unfold ofTask
    rw [List.countP_cons]
    by_cases hj : j = k
    · subst hj
      simp [hk]
    · have : ¬ m.1 = (j : Int) := by omega
      simp [this, hj]

/-- What was sent keeps to the limits. -/
def Limits (c : Cfg) (sent : List (Int × Int)) : Prop := ∀ (k : Nat) t, c.tasks[k]? = some t → ∀ x ∈ t.lims, Limd (ticksOf sent k) x
theorem cfgLims {c : Cfg} (h : cfgOk c = true) {k : Nat} {t : Tk} (ht : c.tasks[k]? = some t) : LimsIn t.lims ∧ t.lims ≠ [] := by
  have h1 := limsOf_in h (k : Int)
  have e : limsOf c (k : Int) = t.lims := by simp [limsOf, ht]
  rw [e] at h1
  refine ⟨fun x hx => ?_, ?_⟩
  · obtain ⟨a1, a2, a3, a4⟩ := h1 x hx
    exact ⟨a1, a2, a3, a4⟩
  · simp only [cfgOk, tasksOk, Bool.and_eq_true, decide_eq_true_eq, List.all_eq_true] at h
    have := h.2.2.2.2.2.2 t (List.mem_of_getElem? ht)
    simp only [taskOk, limsOk, Bool.and_eq_true, decide_eq_true_eq] at this
    intro e'
    rw [e'] at this
    simp at this
theorem ofTask_within (sent : List (Int × Int)) (k : Int) (p : Int × Int → Bool) (s e : Int) (hp : ∀ m, m.1 = k → p m = true → s < m.2 ∧ m.2 ≤ e) : ofTask k (sent.filter p) ≤ within s e (ticksOf sent k) := by
  unfold ofTask within ticksOf
  rw [List.countP_filter, List.countP_map, List.countP_filter]
  have : sent.countP (fun m => decide (m.1 = k) && p m) ≤ sent.countP (fun m => ((fun y => decide (s < y) && decide (y ≤ e)) ∘ fun x => x.2) m && decide (m.1 = k)) := by
    refine List.countP_mono_left fun m _ hm => ?_
    simp only [Bool.and_eq_true, decide_eq_true_eq, Function.comp] at hm ⊢
    obtain ⟨h1, h2⟩ := hp m hm.1 hm.2
    exact ⟨⟨h1, h2⟩, hm.1⟩
  omega
theorem sumP_demand {c : Cfg} (hok : cfgOk c = true) {sent : List (Int × Int)} (hl : Limits c sent) (ht : ∀ m ∈ sent, TaskIn c m) (s d : Int) : sumP c (sent.filter fun m => decide (s < m.2) && decide (dlOf c m ≤ d)) ≤ demandI c (d - s) := by
  rw [sumP_tasks _ fun m hm => ht m (List.mem_filter.1 hm).1]
  unfold demandI
  rw [foldl_sumT (fun t => mostI t (d - s - t.due) * priceI c t) c.tasks 0, Int.zero_add]
  refine sumT_le c.tasks 0 fun j t hj => ?_
  rw [Nat.zero_add]
  obtain ⟨l1, l2⟩ := cfgLims hok hj
  have h1 := ofTask_within sent (j : Int) (fun m => decide (s < m.2) && decide (dlOf c m ≤ d)) s (d - t.due) fun m hm hp => by
    have hp2 := (Bool.and_eq_true _ _).mp hp
    have q1 := of_decide_eq_true hp2.1
    have q2 := of_decide_eq_true hp2.2
    have hdd : dueOf c m.1 = t.due := by simp [dueOf, hm, hj]
    unfold dlOf at q2
    rw [hdd] at q2
    omega
  have h2 := within_most (hl j t hj) l1 l2 s (d - t.due)
  rw [show d - t.due - s = d - s - t.due from by omega] at h2
  have hpr : 0 ≤ priceI c t := by
    obtain ⟨_, _, ⟨p1, _⟩, _, ⟨p2, _⟩, _, _⟩ := cfgNum hok
    have := costOf_in hok (k := (j : Int)) (by omega) (by have := lt_of_get hj; omega)
    have e : costOf c (j : Int) = t.cost := by simp [costOf, hj]
    unfold priceI
    omega
  exact Int.mul_le_mul_of_nonneg_right (by omega) hpr

theorem worstI_ge (c : Cfg) (f : Int) : ∀ (i j : Nat), j ≤ i → demandI c (f + j) - (f + j) ≤ worstI c f i
  | 0, j, h => by
    have : j = 0 := by omega
    subst this
    simp [worstI]
  | i + 1, j, h => by
    rw [worstI]
    by_cases hj : j = i + 1
    · subst hj
      rw [Int.natCast_add]
      exact Int.le_max_right _ _
    · exact Int.le_trans (worstI_ge c f i j (by omega)) (Int.le_max_left _ _)
theorem boundOf_ge {c : Cfg} {k : Nat} {t : Tk} (h : c.tasks[k]? = some t) {n : Int} (h1 : t.due + 1 ≤ n) (h2 : n ≤ t.due + 1000) : t.due + longestI c + (demandI c n - n) ≤ boundOf c (k : Int) := by
  have e : boundOf c (k : Int) = boundI c t := by simp [boundOf, h]
  rw [e]
  obtain ⟨j, hj⟩ : ∃ j : Nat, n = t.due + 1 + j := ⟨(n - t.due - 1).toNat, by omega⟩
  have := worstI_ge c (t.due + 1) 999 j (by omega)
  rw [← hj] at this
  unfold boundI
  omega

/-- What stands when a round begins at t: of each deadline d: the round that began at s left none waiting that has to be done by d and had come; those of F were done since. -/
def Busy (c : Cfg) (t : Int) (sent pend : List (Int × Int)) : Prop :=
  ∀ d, ∃ s F R, -1 ≤ s ∧ s < t ∧ t ≤ s + longestI c + sumP c F ∧ ((F ++ pend.filter fun m => decide (dlOf c m ≤ d)) ++ R).Perm (sent.filter fun m => decide (s < m.2) && decide (dlOf c m ≤ d))

theorem sumP_append (c : Cfg) (a b : List (Int × Int)) : sumP c (a ++ b) = sumP c a + sumP c b := by simp [sumP]
theorem sumP_perm {c : Cfg} {a b : List (Int × Int)} (h : a.Perm b) : sumP c a = sumP c b := by
  unfold sumP
  induction h with
  | nil => rfl
  | cons x _ ih => simp only [List.map_cons, List.sum_cons, ih]
  | swap x y l => simp only [List.map_cons, List.sum_cons]; omega
  | trans _ _ h1 h2 => exact h1.trans h2
theorem sumP_nonneg {c : Cfg} (hok : cfgOk c = true) : ∀ (G : List (Int × Int)), (∀ m ∈ G, TaskIn c m) → 0 ≤ sumP c G
  | [], _ => by simp [sumP]
  | m :: G, h => by
    have ih := sumP_nonneg hok G fun x hx => h x (by simp [hx])
    obtain ⟨_, _, ⟨p1, _⟩, _, ⟨p2, _⟩, _, _⟩ := cfgNum hok
    have := costOf_in hok (h m (by simp)).1 (h m (by simp)).2
    have e : sumP c (m :: G) = prOf c m.1 + sumP c G := by simp [sumP]
    rw [e]
    unfold prOf
    omega

/-- A job that waits is done within its bound, if it is done now. -/
theorem Busy.age {c : Cfg} (hok : cfgOk c = true) {t : Int} {sent pend : List (Int × Int)} (hb : Busy c t sent pend) (hl : Limits c sent) (ht : ∀ m ∈ sent, TaskIn c m) (ha : ∀ m ∈ sent, m.2 < 900) {j : Int × Int} (hj : j ∈ pend) : t + prOf c j.1 ≤ j.2 + boundOf c j.1 := by
  obtain ⟨s, F, R, h1, h2, h3, h4⟩ := hb (dlOf c j)
  have hjf : j ∈ pend.filter fun m => decide (dlOf c m ≤ dlOf c j) := by simp [hj]
  have hjs : j ∈ sent.filter fun m => decide (s < m.2) && decide (dlOf c m ≤ dlOf c j) := h4.mem_iff.1 (by simp only [List.mem_append]; exact .inl (.inr hjf))
  have hjm := (List.mem_filter.1 hjs).1
  have hjs2 : s < j.2 := by
    have := (List.mem_filter.1 hjs).2
    simp at this
    exact this
  have htin := ht j hjm
  obtain ⟨k, hk⟩ : ∃ k : Nat, j.1 = k := ⟨j.1.toNat, by have := htin.1; omega⟩
  obtain ⟨tk, htk⟩ := get_of_lt (l := c.tasks) (k := k) (by have := htin.2; omega)
  have hdue : dueOf c j.1 = tk.due := by simp [dueOf, hk, htk]
  have hd := sumP_demand hok hl ht s (dlOf c j)
  rw [← sumP_perm h4, sumP_append, sumP_append] at hd
  have hmem : ∀ m ∈ (F ++ pend.filter fun m => decide (dlOf c m ≤ dlOf c j)) ++ R, TaskIn c m := fun m hm => ht m (List.mem_filter.1 (h4.mem_iff.1 hm)).1
  have hR := sumP_nonneg hok R fun m hm => hmem m (by simp [hm])
  have hP : prOf c j.1 ≤ sumP c (pend.filter fun m => decide (dlOf c m ≤ dlOf c j)) := by
    obtain ⟨a, b, hab⟩ := List.append_of_mem hjf
    rw [hab, sumP_append]
    have e : sumP c (j :: b) = prOf c j.1 + sumP c b := by simp [sumP]
    have i1 := sumP_nonneg hok a fun m hm => hmem m (by rw [hab]; simp [hm])
    have i2 := sumP_nonneg hok b fun m hm => hmem m (by rw [hab]; simp [hm])
    omega
  have ha' := ha j hjm
  have hbd := boundOf_ge htk (n := dlOf c j - s) (by unfold dlOf; omega) (by unfold dlOf; omega)
  rw [← hk] at hbd
  have hdl : dlOf c j = j.2 + tk.due := by unfold dlOf; rw [hdue]
  generalize pend.filter (fun m => decide (dlOf c m ≤ dlOf c j)) = PF at *
  rw [hdl] at hd hbd
  omega

/-- What waits finds room. -/
theorem Busy.room {c : Cfg} (hok : cfgOk c = true) {t : Int} {sent pend : List (Int × Int)} (hb : Busy c t sent pend) (hl : Limits c sent) (ht : ∀ m ∈ sent, TaskIn c m) (ha : ∀ m ∈ sent, m.2 < 900) {fin : List (Int × Int)} (hp : (pend ++ fin).Perm sent) : ((pend.filter fun m => decide (m.2 ≤ t)).length : Int) ≤ needI c := by
  have hps : ∀ m ∈ pend, m ∈ sent := fun m hm => hp.mem_iff.1 (by simp [hm])
  rw [length_tasks _ fun m hm => ht m (hps m (List.mem_filter.1 hm).1)]
  unfold needI
  rw [foldl_sumT (fun t => mostI t (boundI c t)) c.tasks 0, Int.zero_add]
  refine sumT_le c.tasks 0 fun j tk hj => ?_
  rw [Nat.zero_add]
  obtain ⟨l1, l2⟩ := cfgLims hok hj
  have hbo : boundOf c (j : Int) = boundI c tk := by simp [boundOf, hj]
  have hpr : 1 ≤ prOf c (j : Int) := by
    obtain ⟨_, _, ⟨p1, _⟩, _, ⟨p2, _⟩, _, _⟩ := cfgNum hok
    have := costOf_in hok (k := (j : Int)) (by omega) (by have := lt_of_get hj; omega)
    unfold prOf
    omega
  have h0 : ofTask (j : Int) (pend.filter fun m => decide (m.2 ≤ t)) ≤ ofTask (j : Int) (sent.filter fun m => decide (t - boundI c tk < m.2) && decide (m.2 ≤ t)) := by
    unfold ofTask
    rw [List.countP_filter, List.countP_filter]
    have e1 : pend.countP (fun m => decide (m.1 = (j : Int)) && decide (m.2 ≤ t)) ≤ pend.countP (fun m => decide (m.1 = (j : Int)) && (decide (t - boundI c tk < m.2) && decide (m.2 ≤ t))) := by
      refine List.countP_mono_left fun m hm hq => ?_
      simp only [Bool.and_eq_true, decide_eq_true_eq] at hq ⊢
      have := hb.age hok hl ht ha hm
      rw [hq.1, hbo] at this
      exact ⟨hq.1, by omega, hq.2⟩
    have e2 := hp.countP_eq fun m => decide (m.1 = (j : Int)) && (decide (t - boundI c tk < m.2) && decide (m.2 ≤ t))
    rw [List.countP_append] at e2
    omega
  have h1 := ofTask_within sent (j : Int) (fun m => decide (t - boundI c tk < m.2) && decide (m.2 ≤ t)) (t - boundI c tk) t fun m _ hp => by simpa using hp
  have h2 := within_most (hl j tk hj) l1 l2 (t - boundI c tk) t
  rw [show t - (t - boundI c tk) = boundI c tk from by omega] at h2
  omega

theorem longest_ge (c : Cfg) : ∀ (ts : List Tk) (m : Int), m ≤ ts.foldl (fun m t => max m (priceI c t)) m ∧ ∀ t ∈ ts, priceI c t ≤ ts.foldl (fun m t => max m (priceI c t)) m
  | [], m => ⟨Int.le_refl _, by simp⟩
  | t :: ts, m => by
    obtain ⟨h1, h2⟩ := longest_ge c ts (max m (priceI c t))
    rw [List.foldl_cons]
    refine ⟨by omega, fun u hu => ?_⟩
    rcases List.mem_cons.1 hu with rfl | hu
    · omega
    · exact h2 u hu
theorem longestI_ge {c : Cfg} (_hok : cfgOk c = true) : c.poll + c.idle ≤ longestI c ∧ ∀ k : Int, 0 ≤ k → k < c.tasks.length → prOf c k ≤ longestI c := by
  obtain ⟨h1, h2⟩ := longest_ge c c.tasks (c.poll + c.idle)
  refine ⟨h1, fun k h0 hk => ?_⟩
  obtain ⟨n, hn⟩ : ∃ n : Nat, k = n := ⟨k.toNat, by omega⟩
  obtain ⟨t, ht⟩ := get_of_lt (l := c.tasks) (k := n) (by omega)
  rw [hn, prOf_price ht]
  exact h2 t (List.mem_of_getElem? ht)

theorem Busy.start {c : Cfg} (hok : cfgOk c = true) : Busy c 0 [] [] := by
  intro d
  have h1 := (longestI_ge hok).1
  obtain ⟨_, _, ⟨p1, _⟩, ⟨p2, _⟩, _⟩ := cfgNum hok
  exact ⟨-1, [], [], by omega, by omega, by simp [sumP]; omega, by simp⟩
/-- A message is sent. -/
theorem Busy.sent {c : Cfg} {t : Int} {sent pend : List (Int × Int)} (hb : Busy c t sent pend) {m : Int × Int} (hm : t ≤ m.2) : Busy c t (sent ++ [m]) (pend ++ [m]) := by
  intro d
  obtain ⟨s, F, R, h1, h2, h3, h4⟩ := hb d
  refine ⟨s, F, R, h1, h2, h3, ?_⟩
  by_cases hd : dlOf c m ≤ d
  · have e1 : (pend ++ [m]).filter (fun m => decide (dlOf c m ≤ d)) = pend.filter (fun m => decide (dlOf c m ≤ d)) ++ [m] := by simp [hd]
    have e2 : (sent ++ [m]).filter (fun m => decide (s < m.2) && decide (dlOf c m ≤ d)) = sent.filter (fun m => decide (s < m.2) && decide (dlOf c m ≤ d)) ++ [m] := by
      have : s < m.2 := by omega
      simp [hd, this]
    rw [e1, e2]
    refine List.Perm.trans ?_ (h4.append_right [m])
    simp only [List.append_assoc]
    exact (List.perm_append_comm.append_left _).append_left _
  · have e1 : (pend ++ [m]).filter (fun m => decide (dlOf c m ≤ d)) = pend.filter (fun m => decide (dlOf c m ≤ d)) := by simp [hd]
    have e2 : (sent ++ [m]).filter (fun m => decide (s < m.2) && decide (dlOf c m ≤ d)) = sent.filter (fun m => decide (s < m.2) && decide (dlOf c m ≤ d)) := by simp [hd]
    rw [e1, e2]
    exact h4
/-- A round that does nothing: all that waits came behind its beginning. -/
theorem Busy.idle {c : Cfg} {t t' : Int} {sent pend fin : List (Int × Int)} (_hb : Busy c t sent pend) (hp : (pend ++ fin).Perm sent) (h0 : 0 ≤ t) (h1 : t < t') (h2 : t' ≤ t + longestI c) (hn : ∀ m ∈ pend, t < m.2) : Busy c t' sent pend := by
  intro d
  refine ⟨t, [], fin.filter fun m => decide (t < m.2) && decide (dlOf c m ≤ d), by omega, h1, by simp [sumP]; omega, ?_⟩
  rw [List.nil_append]
  have := hp.filter fun m => decide (t < m.2) && decide (dlOf c m ≤ d)
  rw [List.filter_append] at this
  refine List.Perm.trans ?_ this
  refine List.Perm.append_right _ (List.Perm.of_eq ?_)
  refine List.filter_congr fun m hm => ?_
  simp [hn m hm]
/-- A round that does a job: none that had come must be done ahead of it. -/
theorem Busy.does {c : Cfg} {t t' : Int} {sent pend pend' fin : List (Int × Int)} {j : Int × Int} (hb : Busy c t sent pend) (hp : (pend ++ fin).Perm sent) (hj : pend.Perm (j :: pend')) (h0 : 0 ≤ t) (h1 : t < t') (h2 : t' ≤ t + longestI c) (h3 : t' ≤ t + prOf c j.1) (hn : ∀ m ∈ pend, m.2 ≤ t → dlOf c j ≤ dlOf c m) : Busy c t' sent pend' := by
  intro d
  by_cases hd : dlOf c j ≤ d
  · obtain ⟨s, F, R, g1, g2, g3, g4⟩ := hb d
    refine ⟨s, F ++ [j], R, g1, by omega, ?_, ?_⟩
    · rw [sumP_append]
      have : sumP c [j] = prOf c j.1 := by simp [sumP]
      omega
    · refine List.Perm.trans ?_ g4
      refine List.Perm.append_right _ ?_
      have := hj.filter fun m => decide (dlOf c m ≤ d)
      rw [List.filter_cons_of_pos (by simpa using hd)] at this
      rw [List.append_assoc]
      exact (this.symm).append_left _
  · refine ⟨t, [], (j :: fin).filter fun m => decide (t < m.2) && decide (dlOf c m ≤ d), by omega, h1, by simp [sumP]; omega, ?_⟩
    rw [List.nil_append]
    have := hp.filter fun m => decide (t < m.2) && decide (dlOf c m ≤ d)
    rw [List.filter_append] at this
    have h5 : (pend.filter fun m => decide (t < m.2) && decide (dlOf c m ≤ d)).Perm (pend'.filter fun m => decide (dlOf c m ≤ d)) := by
      have h6 := hj.filter fun m => decide (t < m.2) && decide (dlOf c m ≤ d)
      rw [List.filter_cons_of_neg (by simp [hd])] at h6
      refine h6.trans (List.Perm.of_eq (List.filter_congr fun m hm => ?_))
      by_cases hmd : dlOf c m ≤ d
      · have hm2 : t < m.2 := by
          refine Int.not_le.1 fun hle => ?_
          have := hn m (hj.mem_iff.2 (by simp [hm])) hle
          omega
        simp [hmd, hm2]
      · simp [hmd]
    rw [List.filter_cons_of_neg (by simp [hd])]
    exact (h5.symm.append_right _).trans this

end Go.Proofs.Ythloffgebebijaa

/- OnC: lines that hold whole messages alone, one behind the other: what a round reads of them. No function of the program is named here. -/
namespace Go.Proofs.Ythloffgebebijaa
open Go.RowKit

/-- A message on a line: when its first two bytes were fed, when its last two. -/
structure Sm where
  task : Int
  cost : Int
  t1 : Int
  at_ : Int
def Sm.mg (m : Sm) : Mg := ⟨m.task, m.cost, m.at_⟩
def Sm.key (m : Sm) : Int × Int := (m.task, m.at_)
def smB (m : Sm) : List Fd := [⟨126, m.t1⟩, ⟨m.task, m.t1⟩, ⟨m.cost, m.at_⟩, ⟨((((m.task.toNat ^^^ m.cost.toNat) ^^^ 85 : Nat)) : Int), m.at_⟩]
def smL (l : List Sm) : List Fd := (l.map smB).flatten
theorem smL_cons (m : Sm) (l : List Sm) : smL (m :: l) = smB m ++ smL l := by simp [smL]
theorem smL_append (a b : List Sm) : smL (a ++ b) = smL a ++ smL b := by simp [smL]
theorem smL_length (l : List Sm) : (smL l).length = 4 * l.length := by
  induction l with
  | nil => rfl
  | cons m l ih => rw [smL_cons, List.length_append, ih]; simp [smB]; omega
structure SmOk (c : Cfg) (m : Sm) : Prop where
  t0 : 0 ≤ m.task
  t1 : m.task < c.tasks.length
  c0 : 1 ≤ m.cost
  c1 : m.cost ≤ costOf c m.task
  a0 : 0 ≤ m.at_
  a1 : m.at_ < 900

/-- Read by the tick T; left. -/
def rdS (T : Int) (l : List Sm) : List Sm := l.takeWhile fun m => decide (m.at_ ≤ T)
def lfS (T : Int) (l : List Sm) : List Sm := l.dropWhile fun m => decide (m.at_ ≤ T)
theorem rd_lf (T : Int) (l : List Sm) : rdS T l ++ lfS T l = l := List.takeWhile_append_dropWhile

theorem sm_parts {T : Int} : ∀ (l : List Sm), Ticks (smL l) → ∃ part, (smL l).filter (fun f => decide (f.tick ≤ T)) = smL (rdS T l) ++ part ∧ part ++ (smL l).filter (fun f => !decide (f.tick ≤ T)) = smL (lfS T l) ∧ (part = [] ∨ ∃ a b, part = [a, b] ∧ a.b = 126)
  | [], _ => ⟨[], rfl, rfl, .inl rfl⟩
  | m :: l, h => by
    rw [smL_cons] at h
    obtain ⟨h1, h2, h3⟩ := List.pairwise_append.1 h
    by_cases ha : m.at_ ≤ T
    · have ht : m.t1 ≤ m.at_ := by
        have := (List.pairwise_cons.1 h1).1 ⟨m.cost, m.at_⟩ (by simp)
        exact this
      obtain ⟨part, p1, p2, p3⟩ := sm_parts (T := T) l h2
      refine ⟨part, ?_, ?_, p3⟩
      · rw [smL_cons, List.filter_append, p1]
        have e1 : (smB m).filter (fun f => decide (f.tick ≤ T)) = smB m := by
          rw [List.filter_eq_self]
          intro f hf
          simp only [smB, List.mem_cons, List.not_mem_nil, or_false] at hf
          rcases hf with rfl | rfl | rfl | rfl <;> simp <;> omega
        have e2 : rdS T (m :: l) = m :: rdS T l := by simp [rdS, List.takeWhile, ha]
        rw [e1, e2, smL_cons, List.append_assoc]
      · rw [smL_cons, List.filter_append]
        have e1 : (smB m).filter (fun f => !decide (f.tick ≤ T)) = [] := by
          rw [List.filter_eq_nil_iff]
          intro f hf
          simp only [smB, List.mem_cons, List.not_mem_nil, or_false] at hf
          rcases hf with rfl | rfl | rfl | rfl <;> simp <;> omega
        have e2 : lfS T (m :: l) = lfS T l := by simp [lfS, List.dropWhile, ha]
        rw [e1, e2, List.nil_append]
        exact p2
    · have hl : ∀ f ∈ smL l, ¬ f.tick ≤ T := by
        intro f hf
        have : m.at_ ≤ f.tick := h3 ⟨m.cost, m.at_⟩ (by simp [smB]) f hf
        omega
      have e1 : (smL l).filter (fun f => decide (f.tick ≤ T)) = [] := by
        rw [List.filter_eq_nil_iff]
        intro f hf
        simpa using hl f hf
      have e2 : (smL l).filter (fun f => !decide (f.tick ≤ T)) = smL l := by
        rw [List.filter_eq_self]
        intro f hf
        simpa using hl f hf
      have e3 : rdS T (m :: l) = [] := by simp [rdS, List.takeWhile, ha]
      have e4 : lfS T (m :: l) = m :: l := by simp [lfS, List.dropWhile, ha]
      rw [smL_cons, List.filter_append, List.filter_append, e1, e2, e3, e4, smL_cons]
      by_cases ht : m.t1 ≤ T
      · refine ⟨[⟨126, m.t1⟩, ⟨m.task, m.t1⟩], ?_, ?_, .inr ⟨_, _, rfl, rfl⟩⟩
        · simp [smB, ha, ht, smL]
        · simp [smB, ha, ht]
      · refine ⟨[], ?_, ?_, .inl rfl⟩
        · simp [smB, ha, ht, smL]
        · simp [smB, ha, ht]

theorem lnRead_part {part : List Fd} (hp : part = [] ∨ ∃ a b, part = [a, b] ∧ a.b = 126) : ∀ f, part.length ≤ f → lnRead f part = ([], 0, part)
  | 0, h => by simp [lnRead]
  | f + 1, _ => by
    rw [lnRead, if_pos]
    rcases hp with rfl | ⟨a, b, rfl, hb⟩
    · exact .inl rfl
    · exact .inr (by simp [unfin, hb])
theorem lnRead_sm {c : Cfg} {part : List Fd} (hp : part = [] ∨ ∃ a b, part = [a, b] ∧ a.b = 126) : ∀ (l : List Sm), (∀ m ∈ l, SmOk c m) → ∀ f, (smL l ++ part).length ≤ f → lnRead f (smL l ++ part) = (l.map Sm.mg, 0, part)
  | [], _, f, h => by
    simp only [smL, List.map_nil, List.flatten_nil, List.nil_append] at h ⊢
    exact lnRead_part hp f h
  | m :: l, hm, f, h => by
    rw [smL_cons, List.append_assoc, List.length_append] at h
    have h4 : (smB m).length = 4 := rfl
    obtain ⟨f, rfl⟩ : ∃ g, f = g + 1 := ⟨f - 1, by omega⟩
    have ih := lnRead_sm (c := c) hp l (fun x hx => hm x (by simp [hx])) f (by omega)
    have hmo := hm m (by simp)
    have c0 := hmo.c0
    have hmg : isMg (smB m ++ (smL l ++ part)) = true := by
      simp only [smB, List.cons_append, isMg]
      have : m.cost ≠ 0 := by omega
      simp [this]
    have hun : ¬ (smB m ++ (smL l ++ part) = [] ∨ unfin (smB m ++ (smL l ++ part)) = true) := by
      simp [smB, unfin]
    rw [smL_cons, List.append_assoc, lnRead, if_neg hun, if_pos hmg]
    have hd : (smB m ++ (smL l ++ part)).drop 4 = smL l ++ part := by simp [smB]
    rw [hd, ih]
    rfl

/-- What becomes of a message. -/
def takeS (c : Cfg) (T : Int) (r : Rdg) (m : Sm) : Rdg := exTake c T r m.mg
theorem exLine_sm {c : Cfg} {T : Int} {l : List Sm} {r : Rdg} (ht : Ticks (smL l)) (hm : ∀ m ∈ l, SmOk c m) : exLine c T (smL l) r = (smL (lfS T l), (rdS T l).foldl (takeS c T) r) := by
  obtain ⟨part, p1, p2, p3⟩ := sm_parts (T := T) l ht
  unfold exLine
  simp only
  rw [exRead_two, p1]
  have hlen : (smL (rdS T l) ++ part).length ≤ (smL l).length := by rw [← p1]; exact List.length_filter_le _ _
  rw [lnRead_sm (c := c) p3 (rdS T l) (fun m hm' => hm m ((List.takeWhile_prefix _).sublist.subset hm')) _ hlen]
  simp only
  rw [p2, List.foldl_map, show ((0 : Nat) : Int) = 0 from rfl, addBad_zero]
  rfl
theorem exLines_sm {c : Cfg} {T : Int} : ∀ (Ls : List (List Sm)) (r : Rdg), (∀ l ∈ Ls, Ticks (smL l)) → (∀ l ∈ Ls, ∀ m ∈ l, SmOk c m) → exLines c T (Ls.map smL) r = ((Ls.map (lfS T)).map smL, (Ls.map (rdS T)).flatten.foldl (takeS c T) r)
  | [], r, _, _ => rfl
  | l :: Ls, r, h1, h2 => by
    rw [List.map_cons, exLines, exLine_sm (h1 l (by simp)) (h2 l (by simp))]
    simp only
    rw [exLines_sm Ls _ (fun x hx => h1 x (by simp [hx])) (fun x hx => h2 x (by simp [hx]))]
    simp

/-- The message that a job is of; that an event is of. -/
def jm (c : Cfg) (j : Jb) : Int × Int := (j.task, j.deadline - dueOf c j.task)
def em (c : Cfg) (e : Ev) : Int × Int := (e.task, e.deadline - dueOf c e.task)
def kinds (k : Int) (es : List Ev) : List Ev := es.filter fun e => decide (e.kind = k)
theorem kinds_append (k : Int) (a b : List Ev) : kinds k (a ++ b) = kinds k a ++ kinds k b := by simp [kinds]

/-- What a reading makes of whole messages: jobs that wait, or lost ones. -/
structure TkS (c : Cfg) (T : Int) (arr : List Sm) (r r' : Rdg) (new : List Jb) (newo : List Ev) : Prop where
  jobs : r'.jobs = r.jobs ++ new
  out : r'.out = r.out ++ newo
  perm : (new.map (jm c) ++ newo.map (em c)).Perm (arr.map Sm.key)
  njb : ∀ j ∈ new, ∃ m ∈ arr, j.task = m.task ∧ j.cost = m.cost ∧ j.deadline = m.at_ + dueOf c m.task
  nev : ∀ e ∈ newo, e.kind = 3 ∧ e.tick = T ∧ ∃ m ∈ arr, e.task = m.task ∧ e.deadline = m.at_ + dueOf c m.task
  ctj : r'.ct.jobs = r.ct.jobs + new.length
  ctl : r'.ct.lost = r.ct.lost + newo.length
  ctu : r'.ct.unknown = r.ct.unknown
  ctb : r'.ct.bad = r.ct.bad
  full : (r.jobs.length + arr.length : Int) ≤ c.room → newo = []
theorem takeS_all {c : Cfg} {T : Int} : ∀ (arr : List Sm) (r : Rdg), (∀ m ∈ arr, SmOk c m) → ∃ new newo, TkS c T arr r (arr.foldl (takeS c T) r) new newo
  | [], r, _ => ⟨[], [], ⟨by simp, by simp, by simp, by simp, by simp, by simp, by simp, rfl, rfl, fun _ => rfl⟩⟩
  | m :: arr, r, h => by
    have hm := h m (by simp)
    have hk : ¬ (c.tasks.length : Int) ≤ m.task := by have := hm.t1; omega
    have hdd : ∀ d : Int, d = m.at_ + dueOf c m.task → d - dueOf c m.task = m.at_ := fun d hd => by omega
    rw [List.foldl_cons]
    by_cases hr : (r.jobs.length : Int) = c.room
    · have e : takeS c T r m = { r with ct := { r.ct with lost := r.ct.lost + 1 }, out := r.out ++ [⟨3, T, -1, m.task, m.at_ + dueOf c m.task⟩] } := by
        unfold takeS exTake
        rw [if_neg (show ¬ (c.tasks.length : Int) ≤ m.mg.task from hk), if_pos hr]
        rfl
      obtain ⟨new, newo, q⟩ := takeS_all (c := c) (T := T) arr (takeS c T r m) fun x hx => h x (by simp [hx])
      have q1 := q.jobs
      have q2 := q.out
      have q3 := q.ctj
      have q4 := q.ctl
      have q5 := q.ctu
      have q6 := q.ctb
      have ej : (takeS c T r m).jobs = r.jobs := by rw [e]
      have eo : (takeS c T r m).out = r.out ++ [⟨3, T, -1, m.task, m.at_ + dueOf c m.task⟩] := by rw [e]
      have et : (takeS c T r m).ct = { r.ct with lost := r.ct.lost + 1 } := by rw [e]
      rw [ej] at q1
      rw [eo] at q2
      rw [et] at q3 q4 q5 q6
      simp only at q3 q4 q5 q6
      refine ⟨new, ⟨3, T, -1, m.task, m.at_ + dueOf c m.task⟩ :: newo, ⟨q1, by rw [q2, List.append_assoc]; rfl, ?_, ?_, ?_, q3, by rw [q4]; simp; omega, q5, q6, ?_⟩⟩
      · have : em c ⟨3, T, -1, m.task, m.at_ + dueOf c m.task⟩ = m.key := by simp only [em, Sm.key]; rw [hdd _ rfl]
        rw [List.map_cons, List.map_cons, this]
        exact List.perm_middle.trans (q.perm.cons _)
      · intro j hj
        obtain ⟨x, hx, y⟩ := q.njb j hj
        exact ⟨x, by simp [hx], y⟩
      · intro ev hev
        rcases List.mem_cons.1 hev with rfl | hev
        · exact ⟨rfl, rfl, m, by simp, rfl, rfl⟩
        · obtain ⟨a, b, x, hx, y⟩ := q.nev ev hev
          exact ⟨a, b, x, by simp [hx], y⟩
      · intro hf
        simp at hf
        omega
    · have e : takeS c T r m = { r with jobs := r.jobs ++ [⟨r.ct.jobs, m.task, m.at_ + dueOf c m.task, m.cost⟩], ct := { r.ct with jobs := r.ct.jobs + 1 } } := by
        unfold takeS exTake
        rw [if_neg (show ¬ (c.tasks.length : Int) ≤ m.mg.task from hk), if_neg hr]
        rfl
      obtain ⟨new, newo, q⟩ := takeS_all (c := c) (T := T) arr (takeS c T r m) fun x hx => h x (by simp [hx])
      have q1 := q.jobs
      have q2 := q.out
      have q3 := q.ctj
      have q4 := q.ctl
      have q5 := q.ctu
      have q6 := q.ctb
      have q7 := q.full
      have ej : (takeS c T r m).jobs = r.jobs ++ [⟨r.ct.jobs, m.task, m.at_ + dueOf c m.task, m.cost⟩] := by rw [e]
      have eo : (takeS c T r m).out = r.out := by rw [e]
      have et : (takeS c T r m).ct = { r.ct with jobs := r.ct.jobs + 1 } := by rw [e]
      rw [ej] at q1 q7
      rw [eo] at q2
      rw [et] at q3 q4 q5 q6
      simp only at q3 q4 q5 q6
      refine ⟨⟨r.ct.jobs, m.task, m.at_ + dueOf c m.task, m.cost⟩ :: new, newo, ⟨by rw [q1, List.append_assoc]; rfl, q2, ?_, ?_, ?_, by rw [q3]; simp; omega, q4, q5, q6, ?_⟩⟩
      · have : jm c ⟨r.ct.jobs, m.task, m.at_ + dueOf c m.task, m.cost⟩ = m.key := by simp only [jm, Sm.key]; rw [hdd _ rfl]
        rw [List.map_cons, List.map_cons, this, List.cons_append]
        exact q.perm.cons _
      · intro j hj
        rcases List.mem_cons.1 hj with rfl | hj
        · exact ⟨m, by simp, rfl, rfl, rfl⟩
        · obtain ⟨x, hx, y⟩ := q.njb j hj
          exact ⟨x, by simp [hx], y⟩
      · intro ev hev
        obtain ⟨a, b, x, hx, y⟩ := q.nev ev hev
        exact ⟨a, b, x, by simp [hx], y⟩
      · intro hf
        refine q7 ?_
        simp at hf ⊢
        omega

end Go.Proofs.Ythloffgebebijaa

/- OnD: rounds over lines that hold whole messages: each message that was sent is on a line, or waits, or is done, or was lost; what fits is done in time, and none is lost. No function of the program is named here. -/
namespace Go.Proofs.Ythloffgebebijaa
open Go.RowKit

/-- What stands between the calls. -/
structure TmP (c : Cfg) (x : Exs) (sent : List (Int × Int)) (done : List Ev) (Ls : List (List Sm)) : Prop where
  cf : x.cfg = c
  ln : x.lines = Ls.map smL
  ok : ∀ l ∈ Ls, ∀ m ∈ l, SmOk c m
  perm : ((x.jobs.map (jm c) ++ Ls.flatten.map Sm.key) ++ ((kinds 2 done).map (em c) ++ (kinds 3 done).map (em c))).Perm sent
  jb : ∀ j ∈ x.jobs, 0 ≤ j.task ∧ j.task < c.tasks.length ∧ j.cost ≤ costOf c j.task ∧ (jm c j).2 ≤ x.clock
  bad : x.ct.bad = 0
  unk : x.ct.unknown = 0
  ev : ∀ e ∈ done, 0 ≤ e.task ∧ e.task < c.tasks.length ∧ (em c e).2 ≤ e.tick
/-- What stands where it fits. -/
structure FitP (c : Cfg) (x : Exs) (sent : List (Int × Int)) (done : List Ev) (Ls : List (List Sm)) : Prop where
  nl : kinds 3 done = []
  busy : Busy c x.clock sent (x.jobs.map (jm c) ++ Ls.flatten.map Sm.key)
  time : ∀ e ∈ kinds 2 done, e.tick ≤ (em c e).2 + boundOf c e.task

theorem Busy.perm {c : Cfg} {t : Int} {sent a b : List (Int × Int)} (h : Busy c t sent a) (hp : a.Perm b) : Busy c t sent b := by
  intro d
  obtain ⟨s, F, R, h1, h2, h3, h4⟩ := h d
  exact ⟨s, F, R, h1, h2, h3, (((hp.filter _).symm.append_left F).append_right R).trans h4⟩
theorem flat_rd (T : Int) : ∀ (Ls : List (List Sm)), ((Ls.map (rdS T)).flatten ++ (Ls.map (lfS T)).flatten).Perm Ls.flatten
  | [] => List.Perm.refl _
  | l :: Ls => by
    have ih := flat_rd T Ls
    simp only [List.map_cons, List.flatten_cons]
    have e : (l ++ Ls.flatten) = (rdS T l ++ lfS T l) ++ Ls.flatten := by rw [rd_lf]
    rw [e]
    simp only [List.append_assoc]
    refine List.Perm.append_left _ ?_
    refine List.Perm.trans ?_ (ih.append_left _)
    rw [← List.append_assoc, ← List.append_assoc]
    exact List.perm_append_comm.append_right _
theorem lfS_late {T : Int} : ∀ (l : List Sm), Ticks (smL l) → ∀ m ∈ lfS T l, T < m.at_
  | [], _, m, hm => by simp [lfS] at hm
  | x :: l, h, m, hm => by
    rw [smL_cons] at h
    obtain ⟨h1, h2, h3⟩ := List.pairwise_append.1 h
    by_cases hx : x.at_ ≤ T
    · have e : lfS T (x :: l) = lfS T l := by simp [lfS, List.dropWhile, hx]
      rw [e] at hm
      exact lfS_late l h2 m hm
    · have e : lfS T (x :: l) = x :: l := by simp [lfS, List.dropWhile, hx]
      rw [e] at hm
      rcases List.mem_cons.1 hm with rfl | hm
      · omega
      · have hf : (⟨m.cost, m.at_⟩ : Fd) ∈ smL l := by
          simp only [smL, List.mem_flatten, List.mem_map]
          exact ⟨smB m, ⟨m, hm, rfl⟩, by simp [smB]⟩
        have : x.at_ ≤ m.at_ := h3 ⟨x.cost, x.at_⟩ (by simp [smB]) _ hf
        omega
theorem rdS_by {T : Int} {m : Sm} : ∀ {l : List Sm}, m ∈ rdS T l → m.at_ ≤ T
  | [], h => by simp [rdS] at h
  | x :: l, h => by
    by_cases hx : x.at_ ≤ T
    · have e : rdS T (x :: l) = x :: rdS T l := by simp [rdS, List.takeWhile, hx]
      rw [e] at h
      rcases List.mem_cons.1 h with rfl | h
      · exact hx
      · exact rdS_by h
    · have e : rdS T (x :: l) = [] := by simp [rdS, List.takeWhile, hx]
      rw [e] at h
      simp at h
theorem count_flat (T : Int) (Ls : List (List Sm)) (a : Int × Int) : (Ls.flatten.map Sm.key).count a = ((Ls.map (rdS T)).flatten.map Sm.key).count a + ((Ls.map (lfS T)).flatten.map Sm.key).count a := by
  rw [← ((flat_rd T Ls).map Sm.key).count_eq a, List.map_append, List.count_append]

theorem exRound_tm {c : Cfg} {x : Exs} {N : Int} {sent : List (Int × Int)} {done : List Ev} {Ls : List (List Sm)} (h : TmP c x sent done Ls) (hi : ExIn x N) :
    TmP c (exRound x).1 sent (done ++ (exRound x).2) (Ls.map (lfS x.clock)) ∧ (needI c ≤ c.room → Limits c sent → (∀ m ∈ sent, TaskIn c m) → (∀ m ∈ sent, m.2 < 900) → FitP c x sent done Ls → FitP c (exRound x).1 sent (done ++ (exRound x).2) (Ls.map (lfS x.clock))) := by
  have hcf := h.cf
  have hok : cfgOk c = true := by rw [← hcf]; exact hi.cfg
  obtain ⟨⟨c1, c2⟩, ⟨c3, c4⟩, ⟨c5, c6⟩, ⟨c7, c8⟩, ⟨c9, c10⟩, ⟨c11, c12⟩, _⟩ := cfgNum hok
  have hpo : x.cfg.poll = c.poll := by rw [hcf]
  have hsw : x.cfg.sw = c.sw := by rw [hcf]
  have hid : x.cfg.idle = c.idle := by rw [hcf]
  have hck := hi.ck0
  obtain ⟨_, _, a3, _, _, _⟩ := exLines_in (t := x.clock) x.lines hi.ln hi.rd
  have htk : ∀ l ∈ Ls, Ticks (smL l) := fun l hl => (hi.ln (smL l) (by rw [h.ln]; exact List.mem_map_of_mem hl)).tk
  have hsm := exLines_sm (c := c) (T := x.clock) Ls ⟨x.jobs, x.ct, []⟩ htk h.ok
  rw [← h.ln] at hsm
  have hjbT := h.jb
  generalize hT : x.clock = T at *
  have harr : ∀ m ∈ (Ls.map (rdS T)).flatten, SmOk c m ∧ m.at_ ≤ T := by
    intro m hm
    obtain ⟨l, hl, hml⟩ := List.mem_flatten.1 hm
    obtain ⟨l0, hl0, rfl⟩ := List.mem_map.1 hl
    exact ⟨h.ok l0 hl0 m ((List.takeWhile_prefix _).sublist.subset hml), rdS_by hml⟩
  have hlf : ∀ m ∈ (Ls.map (lfS T)).flatten, SmOk c m ∧ T < m.at_ := by
    intro m hm
    obtain ⟨l, hl, hml⟩ := List.mem_flatten.1 hm
    obtain ⟨l0, hl0, rfl⟩ := List.mem_map.1 hl
    exact ⟨h.ok l0 hl0 m ((List.dropWhile_suffix _).sublist.subset hml), lfS_late l0 (htk l0 hl0) m hml⟩
  have hok' : ∀ l ∈ Ls.map (lfS T), ∀ m ∈ l, SmOk c m := by
    intro l hl m hm
    exact (hlf m (List.mem_flatten.2 ⟨l, hl, hm⟩)).1
  obtain ⟨new, newo, q⟩ := takeS_all (c := c) (T := T) (Ls.map (rdS T)).flatten ⟨x.jobs, x.ct, []⟩ fun m hm => (harr m hm).1
  have hcnt := count_flat T Ls
  generalize hAR : (Ls.map (rdS T)).flatten = arr at *
  generalize hLF : (Ls.map (lfS T)).flatten = LF at *
  generalize hR : arr.foldl (takeS c T) ⟨x.jobs, x.ct, []⟩ = r at *
  have q1 := q.jobs
  have q2 := q.out
  simp only [List.nil_append] at q1 q2
  have hjb : ∀ j ∈ r.jobs, 0 ≤ j.task ∧ j.task < c.tasks.length ∧ j.cost ≤ costOf c j.task ∧ (jm c j).2 ≤ T := by
    intro j hj
    rw [q1] at hj
    rcases List.mem_append.1 hj with hj | hj
    · exact hjbT j hj
    · obtain ⟨m, hm, e1, e2, e3⟩ := q.njb j hj
      obtain ⟨mo, ma⟩ := harr m hm
      have t0 := mo.t0
      have t1 := mo.t1
      have t2 := mo.c1
      refine ⟨by omega, by omega, by rw [e1, e2]; exact t2, ?_⟩
      simp only [jm]
      rw [e1, e3]
      omega
  have hne : ∀ e ∈ newo, 0 ≤ e.task ∧ e.task < c.tasks.length ∧ (em c e).2 ≤ e.tick := by
    intro e he
    obtain ⟨_, e2, m, hm, e3, e4⟩ := q.nev e he
    obtain ⟨mo, ma⟩ := harr m hm
    have t0 := mo.t0
    have t1 := mo.t1
    refine ⟨by omega, by omega, ?_⟩
    simp only [em]
    rw [e3, e4]
    omega
  have hk3 : kinds 3 newo = newo := List.filter_eq_self.2 fun e he => by simp [(q.nev e he).1]
  have hk2 : kinds 2 newo = [] := List.filter_eq_nil_iff.2 fun e he => by simp [(q.nev e he).1]
  have hpc := fun a => h.perm.count_eq a
  have hqc := fun a => q.perm.count_eq a
  simp only [List.count_append] at hpc hqc
  have hjc : ∀ a, (r.jobs.map (jm c)).count a = (x.jobs.map (jm c)).count a + (new.map (jm c)).count a := fun a => by rw [q1, List.map_append, List.count_append]
  have hbad : r.ct.bad = 0 := by rw [q.ctb]; exact h.bad
  have hunk : r.ct.unknown = 0 := by rw [q.ctu]; exact h.unk
  -- the busy run, as it stands behind the reading
  have hfit : needI c ≤ c.room → Limits c sent → (∀ m ∈ sent, TaskIn c m) → (∀ m ∈ sent, m.2 < 900) → FitP c x sent done Ls → newo = [] ∧ Busy c T sent (r.jobs.map (jm c) ++ LF.map Sm.key) ∧ ((r.jobs.map (jm c) ++ LF.map Sm.key) ++ (kinds 2 done).map (em c)).Perm sent := by
    intro hn hl ht ha hf
    have hb := hf.busy
    rw [hT] at hb
    have hpA : (x.jobs.map (jm c) ++ Ls.flatten.map Sm.key).Perm ((x.jobs.map (jm c) ++ arr.map Sm.key) ++ LF.map Sm.key) := List.perm_iff_count.2 fun a => by
      simp only [List.count_append]
      have := hcnt a
      omega
    have hbA := hb.perm hpA
    have hpS : (((x.jobs.map (jm c) ++ arr.map Sm.key) ++ LF.map Sm.key) ++ (kinds 2 done).map (em c)).Perm sent := List.perm_iff_count.2 fun a => by
      simp only [List.count_append]
      have h1 := hcnt a
      have h2 := hpc a
      rw [hf.nl, List.map_nil, List.count_nil] at h2
      omega
    have hroom := hbA.room hok hl ht ha hpS
    have hfl : ((x.jobs.map (jm c) ++ arr.map Sm.key) ++ LF.map Sm.key).filter (fun m => decide (m.2 ≤ T)) = x.jobs.map (jm c) ++ arr.map Sm.key := by
      rw [List.filter_append, List.filter_eq_self.2, List.filter_eq_nil_iff.2, List.append_nil]
      · intro m hm
        obtain ⟨s, hs, rfl⟩ := List.mem_map.1 hm
        have := (hlf s hs).2
        intro hh
        have h2 : s.at_ ≤ T := of_decide_eq_true hh
        omega
      · intro m hm
        rcases List.mem_append.1 hm with hm | hm
        · obtain ⟨j, hj, rfl⟩ := List.mem_map.1 hm
          have := (hjbT j hj).2.2.2
          simpa using this
        · obtain ⟨s, hs, rfl⟩ := List.mem_map.1 hm
          exact decide_eq_true (show (Sm.key s).2 ≤ T from (harr s hs).2)
    rw [hfl, List.length_append, List.length_map, List.length_map] at hroom
    have hno : newo = [] := q.full (by simp only; omega)
    have hpB : ((x.jobs.map (jm c) ++ arr.map Sm.key) ++ LF.map Sm.key).Perm (r.jobs.map (jm c) ++ LF.map Sm.key) := List.perm_iff_count.2 fun a => by
      simp only [List.count_append]
      have h1 := hqc a
      have h2 := hjc a
      rw [hno, List.map_nil, List.count_nil] at h1
      omega
    exact ⟨hno, hbA.perm hpB, (hpB.symm.append_right _).trans hpS⟩
  cases hj : r.jobs[firstJ r.jobs]? with
  | none =>
    have e : exRound x = ({ x with lines := (Ls.map (lfS T)).map smL, jobs := r.jobs, ct := r.ct, clock := x.clock + x.cfg.poll + x.cfg.idle }, r.out) := by
      unfold exRound
      rw [hcf, hT, hsm]
      simp only [hj]
    have hr0 : r.jobs = [] := by
      by_cases h0 : r.jobs = []
      · exact h0
      · obtain ⟨j, hj'⟩ := firstJ_some h0
        rw [hj] at hj'
        cases hj'
    rw [e, hT]
    refine ⟨⟨hcf, rfl, hok', ?_, ?_, hbad, hunk, ?_⟩, fun hn hl ht ha hf => ?_⟩
    · simp only
      rw [kinds_append, kinds_append, q2, hk2, hk3, hLF]
      refine List.perm_iff_count.2 fun a => ?_
      simp only [List.map_append, List.count_append, List.map_nil, List.count_nil]
      have h1 := hcnt a
      have h2 := hpc a
      have h3 := hqc a
      have h4 := hjc a
      omega
    · intro j hj'
      simp only at hj' ⊢
      obtain ⟨b1, b2, b3, b4⟩ := hjb j hj'
      exact ⟨b1, b2, b3, by omega⟩
    · intro ev hev
      rw [q2] at hev
      rcases List.mem_append.1 hev with hev | hev
      · exact h.ev ev hev
      · exact hne ev hev
    · obtain ⟨hno, hbz, hps⟩ := hfit hn hl ht ha hf
      rw [hr0] at hbz hps
      refine ⟨?_, ?_, ?_⟩
      · rw [kinds_append, hf.nl, q2, hno]
        rfl
      · simp only
        rw [hr0, hLF]
        refine Busy.idle hbz hps (by omega) (by omega) ?_ ?_
        · have := (longestI_ge hok).1
          omega
        · intro m hm
          simp only [List.map_nil, List.nil_append] at hm
          obtain ⟨s, hs, rfl⟩ := List.mem_map.1 hm
          exact (hlf s hs).2
      · intro ev hev
        rw [kinds_append, q2, hk2, List.append_nil] at hev
        exact hf.time ev hev
  | some j =>
    have e : exRound x = ({ x with lines := (Ls.map (lfS T)).map smL, jobs := r.jobs.eraseIdx (firstJ r.jobs), ct := { r.ct with done := r.ct.done + 1 }, clock := x.clock + x.cfg.poll + x.cfg.sw + j.cost }, r.out ++ [⟨1, x.clock + x.cfg.poll, j.number, j.task, j.deadline⟩, ⟨2, x.clock + x.cfg.poll + x.cfg.sw + j.cost, j.number, j.task, j.deadline⟩]) := by
      unfold exRound
      rw [hcf, hT, hsm]
      simp only [hj]
    have hjm := List.mem_of_getElem? hj
    obtain ⟨b1, b2, b3, b4⟩ := hjb j hjm
    have hjc0 : 1 ≤ j.cost := by
      have h5 := a3.jb j
      rw [hcf, hsm] at h5
      exact (h5 hjm).2.2.1
    have hfs := (firstJ_spec (js := r.jobs) (List.length_pos_iff.2 fun e => by rw [e] at hjm; simp at hjm)).2
    have hpe : (j :: r.jobs.eraseIdx (firstJ r.jobs)).Perm r.jobs := by
      have hp0 : r.jobs.Perm (j :: r.jobs.eraseIdx (firstJ r.jobs)) := by
        obtain ⟨hlt, hjj⟩ := List.getElem?_eq_some_iff.1 hj
        rw [List.eraseIdx_eq_take_drop_succ, ← hjj]
        refine List.Perm.trans ?_ List.perm_middle
        rw [← List.drop_eq_getElem_cons hlt, List.take_append_drop]
      exact hp0.symm
    have hec : ∀ a, (r.jobs.map (jm c)).count a = [jm c j].count a + ((r.jobs.eraseIdx (firstJ r.jobs)).map (jm c)).count a := fun a => by
      rw [← (hpe.map (jm c)).count_eq a, List.map_cons, ← List.singleton_append, List.count_append]
    have hk3p : kinds 3 [(⟨1, x.clock + x.cfg.poll, j.number, j.task, j.deadline⟩ : Ev), ⟨2, x.clock + x.cfg.poll + x.cfg.sw + j.cost, j.number, j.task, j.deadline⟩] = [] := by simp [kinds]
    have hk2p : kinds 2 [(⟨1, x.clock + x.cfg.poll, j.number, j.task, j.deadline⟩ : Ev), ⟨2, x.clock + x.cfg.poll + x.cfg.sw + j.cost, j.number, j.task, j.deadline⟩] = [⟨2, x.clock + x.cfg.poll + x.cfg.sw + j.cost, j.number, j.task, j.deadline⟩] := by simp [kinds]
    rw [hT] at e hk3p hk2p
    rw [e]
    refine ⟨⟨hcf, rfl, hok', ?_, ?_, hbad, hunk, ?_⟩, fun hn hl ht ha hf => ?_⟩
    · simp only
      rw [kinds_append, kinds_append, kinds_append, kinds_append, q2, hk2, hk3, hk3p, hk2p, hLF]
      refine List.perm_iff_count.2 fun a => ?_
      simp only [List.map_append, List.count_append, List.map_nil, List.count_nil, List.map_cons]
      have e1 : [em c ⟨2, T + x.cfg.poll + x.cfg.sw + j.cost, j.number, j.task, j.deadline⟩].count a = [jm c j].count a := rfl
      have h1 := hcnt a
      have h2 := hpc a
      have h3 := hqc a
      have h4 := hjc a
      have h5 := hec a
      rw [e1]
      omega
    · intro k hk
      simp only at hk ⊢
      obtain ⟨d1, d2, d3, d4⟩ := hjb k (List.mem_of_mem_eraseIdx hk)
      exact ⟨d1, d2, d3, by omega⟩
    · intro ev hev
      rw [q2, ← List.append_assoc] at hev
      rcases List.mem_append.1 hev with hev | hev
      · rcases List.mem_append.1 hev with hev | hev
        · exact h.ev ev hev
        · exact hne ev hev
      · simp only [jm] at b4
        simp only [List.mem_cons, List.not_mem_nil, or_false] at hev
        rcases hev with rfl | rfl
        · exact ⟨b1, b2, by simp only [em]; omega⟩
        · exact ⟨b1, b2, by simp only [em]; omega⟩
    · obtain ⟨hno, hbz, hps⟩ := hfit hn hl ht ha hf
      have hpr : j.cost + c.poll + c.sw ≤ prOf c j.task := by unfold prOf; omega
      have hlg := (longestI_ge hok).2 j.task b1 b2
      have hage := hbz.age hok hl ht ha (j := jm c j) (by simp only [List.mem_append, List.mem_map]; exact .inl ⟨j, hjm, rfl⟩)
      simp only [jm] at hage
      refine ⟨?_, ?_, ?_⟩
      · rw [kinds_append, kinds_append, hf.nl, q2, hno, hk3p]
        rfl
      · simp only
        rw [hLF]
        have hpj : (r.jobs.map (jm c) ++ LF.map Sm.key).Perm (jm c j :: ((r.jobs.eraseIdx (firstJ r.jobs)).map (jm c) ++ LF.map Sm.key)) := by
          have := ((hpe.map (jm c)).symm).append_right (LF.map Sm.key)
          exact this
        refine Busy.does hbz hps hpj (by omega) (by omega) (by omega) (by simp only [jm]; omega) ?_
        intro m hm hle
        rcases List.mem_append.1 hm with hm | hm
        · obtain ⟨k, hk, rfl⟩ := List.mem_map.1 hm
          obtain ⟨i, hi'⟩ := List.getElem?_of_mem hk
          have hjl := hfs i k j hi' hj
          rw [jle_iff] at hjl
          simp only [dlOf, jm]
          omega
        · obtain ⟨s, hs, rfl⟩ := List.mem_map.1 hm
          have := (hlf s hs).2
          simp only [Sm.key] at hle
          omega
      · intro ev hev
        rw [kinds_append, kinds_append, q2, hk2, List.nil_append, hk2p] at hev
        rcases List.mem_append.1 hev with hev | hev
        · exact hf.time ev hev
        · simp only [List.mem_cons, List.not_mem_nil, or_false] at hev
          subst hev
          simp only [em]
          omega

end Go.Proofs.Ythloffgebebijaa

/- OnE: a house to which messages come as often as the limits let them: all of them are whole, none is spilled; what fits is done in time. No function of the program is named here. -/
namespace Go.Proofs.Ythloffgebebijaa
open Go.RowKit

theorem held_sm (Ls : List (List Sm)) : held (Ls.map smL) = 4 * (Ls.flatten.length : Int) := by
  induction Ls with
  | nil => rfl
  | cons l Ls ih =>
    rw [List.map_cons, held_cons, ih, smL_length, List.flatten_cons, List.length_append]
    omega
theorem lf_shorter (T : Int) : ∀ (Ls : List (List Sm)), (Ls.map (lfS T)).flatten.length ≤ Ls.flatten.length
  | [] => Nat.le_refl _
  | l :: Ls => by
    have := lf_shorter T Ls
    have h2 : (lfS T l).length ≤ l.length := (List.dropWhile_suffix _).length_le
    simp only [List.map_cons, List.flatten_cons, List.length_append]
    omega

/-- What it takes for a configuration to fit, as far as rounds go. -/
structure Fitting (c : Cfg) (sent : List (Int × Int)) : Prop where
  need : needI c ≤ c.room
  lim : Limits c sent
  tin : ∀ m ∈ sent, TaskIn c m
  at9 : ∀ m ∈ sent, m.2 < 900

theorem exRun_tm (u : Int) {c : Cfg} : ∀ (f : Nat) {x : Exs} {N : Int} {sent : List (Int × Int)} {done : List Ev} {Ls : List (List Sm)}, TmP c x sent done Ls → ExIn x N →
    ∃ Ls', TmP c (exRun u f x).1 sent (done ++ (exRun u f x).2) Ls' ∧ (Fitting c sent → FitP c x sent done Ls → FitP c (exRun u f x).1 sent (done ++ (exRun u f x).2) Ls') ∧ Ls'.flatten.length ≤ Ls.flatten.length
  | 0, x, N, sent, done, Ls, h, _ => ⟨Ls, by simpa [exRun] using h, fun _ hf => by simpa [exRun] using hf, Nat.le_refl _⟩
  | f + 1, x, N, sent, done, Ls, h, hi => by
    unfold exRun
    split
    · rename_i hc
      obtain ⟨h1, h2⟩ := exRound_tm h hi
      obtain ⟨Ls', g1, g2, g3⟩ := exRun_tm u f h1 (exRound_in hi hc.2).1
      rw [List.append_assoc] at g1 g2
      exact ⟨Ls', g1, fun hF hf => g2 hF (h2 hF.need hF.lim hF.tin hF.at9 hf), Nat.le_trans g3 (lf_shorter _ _)⟩
    · exact ⟨Ls, by simpa using h, fun _ hf => by simpa using hf, Nat.le_refl _⟩

theorem lineFeed_room {t : Int} : ∀ (bs : List Int) (l : List Fd) (s : Int), l.length + bs.length ≤ 32 → bs.foldl (lineAdd t) (l, s) = (l ++ bs.map (fun b => ⟨b, t⟩), s)
  | [], l, s, _ => by simp
  | b :: bs, l, s, h => by
    simp only [List.length_cons] at h
    rw [List.foldl_cons, lineAdd, if_pos (by simp only; omega)]
    simp only
    rw [lineFeed_room bs _ s (by simp; omega)]
    simp
/-- Bytes that find room on their line. -/
theorem exFeed_room {x : Exs} {line t : Int} {bs : List Int} {l : List Fd} (h0 : (exFeed x line t bs).2 = 0) (hl : x.lines[line.toNat]? = some l) (hr : l.length + bs.length ≤ 32) : (exFeed x line t bs).1 = { x with lines := x.lines.set line.toNat (l ++ bs.map fun b => ⟨b, t⟩), fed := t } := by
  unfold exFeed at h0 ⊢
  split at h0
  · rename_i h1
    rw [if_pos h1]
    split at h0
    · simp at h0
    · rename_i h2
      rw [if_neg h2]
      have hg : x.lines.getD line.toNat [] = l := by rw [List.getD_eq_getElem?_getD, hl]; rfl
      simp only [lineFeed]
      rw [hg, lineFeed_room bs l 0 hr]
      simp
  · simp at h0

theorem count_set : ∀ (Ls : List (List Sm)) (i : Nat) (l : List Sm) (m : Sm) (a : Int × Int), Ls[i]? = some l → ((Ls.set i (l ++ [m])).flatten.map Sm.key).count a = (Ls.flatten.map Sm.key).count a + [m.key].count a
  | [], _, _, _, _, h => by simp at h
  | x :: Ls, 0, l, m, a, h => by
    simp at h
    subst h
    simp only [List.set_cons_zero, List.flatten_cons, List.map_append, List.count_append, List.map_cons, List.map_nil]
    omega
  | x :: Ls, i + 1, l, m, a, h => by
    have := count_set Ls i l m a (by simpa using h)
    simp only [List.set_cons_succ, List.flatten_cons, List.map_append, List.count_append] at this ⊢
    omega
theorem length_set_flat : ∀ (Ls : List (List Sm)) (i : Nat) (l : List Sm) (m : Sm), Ls[i]? = some l → (Ls.set i (l ++ [m])).flatten.length = Ls.flatten.length + 1
  | [], _, _, _, h => by simp at h
  | x :: Ls, 0, l, m, h => by
    simp at h
    subst h
    simp only [List.set_cons_zero, List.flatten_cons, List.length_append, List.length_cons, List.length_nil]
    omega
  | x :: Ls, i + 1, l, m, h => by
    have := length_set_flat Ls i l m (by simpa using h)
    simp only [List.set_cons_succ, List.flatten_cons, List.length_append] at this ⊢
    omega
theorem line_in_flat : ∀ (Ls : List (List Sm)) (i : Nat) (l : List Sm), Ls[i]? = some l → l.length ≤ Ls.flatten.length
  | [], _, _, h => by simp at h
  | x :: Ls, 0, l, h => by simp at h; subst h; simp
  | x :: Ls, i + 1, l, h => by
    have := line_in_flat Ls i l (by simpa using h)
    simp only [List.flatten_cons, List.length_append]
    omega

/-- A message more at a line's end. -/
theorem TmP.more {c : Cfg} {x x' : Exs} {sent : List (Int × Int)} {done : List Ev} {Ls : List (List Sm)} (h : TmP c x sent done Ls) {i : Nat} {l : List Sm} {m : Sm} (hl : Ls[i]? = some l) (hm : SmOk c m) (h1 : x'.cfg = x.cfg) (h2 : x'.jobs = x.jobs) (h3 : x'.clock = x.clock) (h4 : x'.ct = x.ct) (h5 : x'.lines = x.lines.set i (smL l ++ smB m)) (ht : x.clock ≤ m.at_) :
    TmP c x' (sent ++ [m.key]) done (Ls.set i (l ++ [m])) ∧ (FitP c x sent done Ls → FitP c x' (sent ++ [m.key]) done (Ls.set i (l ++ [m]))) := by
  have hp : (x.jobs.map (jm c) ++ Ls.flatten.map Sm.key ++ [m.key]).Perm (x'.jobs.map (jm c) ++ (Ls.set i (l ++ [m])).flatten.map Sm.key) := List.perm_iff_count.2 fun a => by
    have := count_set Ls i l m a hl
    rw [h2]
    simp only [List.count_append]
    omega
  refine ⟨⟨h1.trans h.cf, ?_, ?_, ?_, ?_, by rw [h4]; exact h.bad, by rw [h4]; exact h.unk, h.ev⟩, fun hf => ⟨hf.nl, ?_, hf.time⟩⟩
  · rw [h5, h.ln, List.map_set, smL_append]
    simp [smL]
  · intro y hy z hz
    rcases List.mem_or_eq_of_mem_set hy with hy | rfl
    · exact h.ok y hy z hz
    · rcases List.mem_append.1 hz with hz | hz
      · exact h.ok l (List.mem_of_getElem? hl) z hz
      · simp only [List.mem_cons, List.not_mem_nil, or_false] at hz
        subst hz
        exact hm
  · refine List.perm_iff_count.2 fun a => ?_
    have h6 := hp.count_eq a
    have h7 := h.perm.count_eq a
    simp only [List.count_append] at h6 h7 ⊢
    omega
  · intro j hj
    rw [h2] at hj
    rw [h3]
    exact h.jb j hj
  · rw [h3]
    exact (hf.busy.sent (m := m.key) ht).perm hp

/-- The limits, behind one more that comes no sooner than it may. -/
theorem foldUp_at (l : List Int) : ∀ (xs : List (Int × Int)) (t : Int) (x : Int × Int), x ∈ xs → x.2 ≤ (l.length : Int) → l.getD (l.length - x.2.toNat) 0 + x.1 ≤ xs.foldl (limUp l) t
  | [], _, _, h, _ => by simp at h
  | y :: xs, t, x, h, hx => by
    rw [List.foldl_cons]
    rcases List.mem_cons.1 h with rfl | h
    · refine Int.le_trans ?_ (foldUp_ge l xs _)
      unfold limUp
      rw [if_pos hx]
      exact Int.le_max_right _ _
    · exact foldUp_at l xs _ x h hx
theorem Limits.snoc {c : Cfg} (hok : cfgOk c = true) {sent : List (Int × Int)} (h : Limits c sent) (hs : sent.Pairwise fun a b => a.2 ≤ b.2) {k : Nat} {a t : Int} (ha : soonI c sent k t ≤ a) : Limits c (sent ++ [((k : Int), a)]) := by
  intro j tk hj x hx
  by_cases hjk : (k : Int) = (j : Int)
  · have e : ticksOf (sent ++ [((k : Int), a)]) (j : Int) = ticksOf sent (j : Int) ++ [a] := by simp [ticksOf, hjk]
    rw [e]
    have hl : limsOf c (k : Int) = tk.lims := by rw [hjk]; simp [limsOf, hj]
    have hx2 := (cfgLims hok hj).1 x hx
    refine (h j tk hj x hx).snoc ?_ hx2.2.2.1 fun hc => ?_
    · have h1 : (sent.filter fun s => decide (s.1 = (j : Int))).Pairwise fun a b => a.2 ≤ b.2 := hs.sublist List.filter_sublist
      exact List.pairwise_map.2 h1
    · have := foldUp_at (ticksOf sent (j : Int)) (limsOf c (k : Int)) t x (by rw [hl]; exact hx) hc
      unfold soonI at ha
      rw [hjk] at ha this
      omega
  · have e : ticksOf (sent ++ [((k : Int), a)]) (j : Int) = ticksOf sent (j : Int) := by simp [ticksOf, hjk]
    rw [e]
    exact h j tk hj x hx

end Go.Proofs.Ythloffgebebijaa

/- OnF: what stands in a house to which messages come as often as the limits let them, and at its end. No function of the program is named here. -/
namespace Go.Proofs.Ythloffgebebijaa
open Go.RowKit

/-- What fits, by its numbers. -/
theorem what_fits {c : Cfg} (h : whatI c = 1) : needI c ≤ c.room ∧ ∀ t ∈ c.tasks, boundI c t ≤ t.due := by
  unfold whatI at h
  split at h
  · simp at h
  · rename_i h1
    split at h
    · simp at h
    · rename_i h2
      refine ⟨by omega, fun t ht => ?_⟩
      simp only [lateB, List.any_eq_true, decide_eq_true_eq, not_exists, not_and, Int.not_lt] at h1
      exact h1 t ht
theorem bound_due {c : Cfg} (h : whatI c = 1) {k : Int} (h0 : 0 ≤ k) (h1 : k < c.tasks.length) : boundOf c k ≤ dueOf c k := by
  obtain ⟨n, hn⟩ : ∃ n : Nat, k = n := ⟨k.toNat, by omega⟩
  obtain ⟨t, ht⟩ := get_of_lt (l := c.tasks) (k := n) (by omega)
  have := (what_fits h).2 t (List.mem_of_getElem? ht)
  subst hn
  simpa [boundOf, dueOf, ht] using this

structure HsT (c : Cfg) (h : Hs) : Prop where
  hin : HsIn c (4 * (h.sent.length : Int)) h
  tm : ∃ Ls, TmP c h.x h.sent h.done Ls ∧ (whatI c = 1 → FitP c h.x h.sent h.done Ls)
  lim : Limits c h.sent
  tin : ∀ m ∈ h.sent, TaskIn c m
  srt : h.sent.Pairwise fun a b => a.2 ≤ b.2
  lst : ∀ m ∈ h.sent, m.2 ≤ h.last
  spl : h.x.ct.spilled = 0
  cd : cnt 2 h.done = h.x.ct.done
  cl : cnt 3 h.done = h.x.ct.lost
  hld : ∃ u : Nat, 400 * (u : Int) ≤ h.x.clock ∧ held h.x.lines ≤ 20 + 4 * (u : Int)
  sh : 1200 ≤ h.x.clock → ∀ l ∈ h.x.lines, l.length ≤ 3
theorem HsT.fitting {c : Cfg} {h : Hs} (p : HsT c h) (hw : whatI c = 1) : Fitting c h.sent := ⟨(what_fits hw).1, p.lim, p.tin, fun m hm => (p.hin.st m hm).2⟩

theorem exRound_spl {x : Exs} {N : Int} (h : ExIn x N) : (exRound x).1.ct.spilled = x.ct.spilled := by
  obtain ⟨a1, a2, a3, a4, a5, a6⟩ := exLines_in (t := x.clock) x.lines h.ln h.rd
  simp only at a5
  generalize hp : exLines x.cfg x.clock x.lines ⟨x.jobs, x.ct, []⟩ = p at *
  cases hj : p.2.jobs[firstJ p.2.jobs]? with
  | none =>
    have e : (exRound x).1.ct = p.2.ct := by
      unfold exRound
      simp only [hp, hj]
    rw [e, a5]
  | some j =>
    have e : (exRound x).1.ct = { p.2.ct with done := p.2.ct.done + 1 } := by
      unfold exRound
      simp only [hp, hj]
    rw [e]
    exact a5
theorem exRun_spl (u : Int) : ∀ (f : Nat) {x : Exs} {N : Int}, ExIn x N → (exRun u f x).1.ct.spilled = x.ct.spilled
  | 0, _, _, _ => rfl
  | f + 1, x, N, h => by
    unfold exRun
    split
    · rename_i hc
      exact (exRun_spl u f (exRound_in h hc.2).1).trans (exRound_spl h)
    · rfl

theorem exRun_sh (u : Int) : ∀ (f : Nat) {x : Exs} {N : Int}, ExIn x N → x.fed < 900 → (1200 ≤ x.clock → ∀ l ∈ x.lines, l.length ≤ 3) → 1200 ≤ (exRun u f x).1.clock → ∀ l ∈ (exRun u f x).1.lines, l.length ≤ 3
  | 0, _, _, _, _, h => h
  | f + 1, x, N, hi, hf, h => by
    unfold exRun
    split
    · rename_i hc
      obtain ⟨s1, _, _, s4, s5, _⟩ := exRound_cnt hi
      exact exRun_sh u f (exRound_in hi hc.2).1 (by omega) fun h12 => s4 (by omega)
    · exact h

theorem HsT.run {c : Cfg} {h : Hs} (p : HsT c h) (u : Int) : HsT c (h.run u) ∧ held (h.run u).x.lines ≤ held h.x.lines := by
  obtain ⟨Ls, t1, t2⟩ := p.tm
  obtain ⟨Ls', g1, g2, g3⟩ := exRun_tm u 3000 t1 p.hin.ex
  obtain ⟨r1, r2, r3, r4, r5, r6, r7⟩ := exRun_cnt u 3000 p.hin.ex
  have hh : held (h.run u).x.lines ≤ held h.x.lines := by
    have e1 : (h.run u).x.lines = Ls'.map smL := g1.ln
    rw [e1, t1.ln, held_sm, held_sm]
    omega
  refine ⟨⟨p.hin.run u, ⟨Ls', g1, fun hw => g2 (p.fitting hw) (t2 hw)⟩, p.lim, p.tin, p.srt, p.lst, (exRun_spl u 3000 p.hin.ex).trans p.spl, ?_, ?_, ?_, exRun_sh u 3000 p.hin.ex (by have := p.hin.fd; have := p.hin.l1; omega) p.sh⟩, hh⟩
  · have := p.cd
    simp only [Hs.run, cnt_append]
    omega
  · have := p.cl
    simp only [Hs.run, cnt_append]
    omega
  · obtain ⟨v, v1, v2⟩ := p.hld
    refine ⟨v, ?_, by omega⟩
    simp only [Hs.run]
    omega

theorem waits_tm {c : Cfg} {k : Int} : ∀ (f : Nat) {h : Hs} {a : Int}, HsT c h → HsT c (waits true c k f h a).1 ∧ held (waits true c k f h a).1.x.lines ≤ held h.x.lines ∧ (held (waits true c k f h a).1.x.lines ≤ 16 ∨ min (h.x.clock + f) 3000 ≤ (waits true c k f h a).1.x.clock)
  | 0, h, a, p => ⟨p, Int.le_refl _, .inr (by simp only [waits]; omega)⟩
  | f + 1, h, a, p => by
    unfold waits
    split
    · rename_i hc
      exact ⟨p, Int.le_refl _, .inl hc.2⟩
    · obtain ⟨p1, p2⟩ := p.run (h.x.clock + 1)
      obtain ⟨q1, q2, q3⟩ := waits_tm (k := k) f (a := settle true c h.sent k h.x.clock a) p1
      refine ⟨q1, by omega, q3.imp id fun q3 => ?_⟩
      have he := exRun_end (h.x.clock + 1) 3000 p.hin.ex (by omega)
      have : (h.run (h.x.clock + 1)).x.clock = (exRun (h.x.clock + 1) 3000 h.x).1.clock := rfl
      omega

/-- A message is sent: at a tick that the limits let it. -/
theorem sends_tm {c : Cfg} {o : Come5} {h : Hs} {a t : Int} (p : HsT c h) (ha : h.x.clock ≤ a ∧ h.last ≤ a ∧ a < 900) (hs : soonI c h.sent (kOf c o) t ≤ a) (hr : held h.x.lines ≤ 28) (hd : held h.x.lines ≤ 16 ∨ ∃ u : Nat, 400 * ((u : Int) + 1) ≤ h.x.clock ∧ held h.x.lines ≤ 20 + 4 * (u : Int)) : HsT c (sends true c o h a) := by
  obtain ⟨Ls, t1, t2⟩ := p.tm
  have hin := p.hin
  have hok : cfgOk c = true := by have := hin.ex.cfg; rw [hin.cf] at this; exact this
  have hk := kOf_in hok o
  have hl := lineOf_in hok o
  have hp := priceOf_in hok true o
  have hnl := hin.ex.nl
  rw [hin.cf, t1.ln, List.length_map] at hnl
  obtain ⟨i, hi⟩ : ∃ i : Nat, lineOf c o = i := ⟨(lineOf c o).toNat, by omega⟩
  obtain ⟨l, hll⟩ := get_of_lt (l := Ls) (k := i) (by omega)
  have hxl : h.x.lines[(lineOf c o).toNat]? = some (smL l) := by rw [t1.ln, hi]; simp [hll]
  have hlen : (smL l).length ≤ 28 := by
    have h1 := line_in_flat Ls i l hll
    rw [t1.ln, held_sm] at hr
    rw [smL_length]
    omega
  obtain ⟨s1, s2, s3, s4⟩ := sends_in (tame := true) (o := o) hin ha
  have hl0 := hin.l0
  -- the state behind the feeding
  have key : ∃ m : Sm, m.key = (kOf c o, a) ∧ SmOk c m ∧ (sends true c o h a).x = { h.x with lines := h.x.lines.set i (smL l ++ smB m), fed := a } := by
    cases hsp : o.split with
    | false =>
      refine ⟨⟨kOf c o, priceOf true c o, a, a⟩, rfl, ⟨hk.1, hk.2, hp.1, hp.2.2 rfl, by simp only; omega, ha.2.2⟩, ?_⟩
      have e1 := exFeed_room (s4 hsp) hxl (by simp [msgC]; omega)
      simp only [sends, hsp, Bool.false_eq_true, if_false, Hs.feed]
      rw [e1, hi]
      rfl
    | true =>
      obtain ⟨f1, f2⟩ := s3 hsp
      have e1 := exFeed_room f1 hxl (by simp [msgC]; omega)
      refine ⟨⟨kOf c o, priceOf true c o, max h.last h.x.clock, a⟩, rfl, ⟨hk.1, hk.2, hp.1, hp.2.2 rfl, by simp only; omega, ha.2.2⟩, ?_⟩
      rw [e1] at f2
      have hx2 : ({ h.x with lines := h.x.lines.set (lineOf c o).toNat (smL l ++ ((msgC (kOf c o) (priceOf true c o)).take 2).map fun b => (⟨b, max h.last h.x.clock⟩ : Fd)), fed := max h.last h.x.clock } : Exs).lines[(lineOf c o).toNat]? = some (smL l ++ ((msgC (kOf c o) (priceOf true c o)).take 2).map fun b => (⟨b, max h.last h.x.clock⟩ : Fd)) := by
        have hlt := lt_of_get hxl
        simp [hlt]
      have e2 := exFeed_room f2 hx2 (by simp [msgC]; omega)
      simp only [sends, hsp, if_true, Hs.feed]
      rw [e1, e2, hi]
      simp [smB, msgC]
  obtain ⟨m, mk, mo, mx⟩ := key
  have hse : (sends true c o h a).sent = h.sent ++ [m.key] := by
    rw [mk]
    simp only [sends]
    split <;> rfl
  have hdo : (sends true c o h a).done = h.done := by
    simp only [sends]
    split <;> rfl
  have hla : (sends true c o h a).last = a := rfl
  have hat : m.at_ = a := by have := congrArg Prod.snd mk; exact this
  obtain ⟨g1, g2⟩ := t1.more (x' := (sends true c o h a).x) hll mo (by rw [mx]) (by rw [mx]) (by rw [mx]) (by rw [mx]) (by rw [mx]) (by omega)
  obtain ⟨kn, hkn⟩ : ∃ kn : Nat, kOf c o = kn := ⟨(kOf c o).toNat, by omega⟩
  refine ⟨?_, ⟨_, by rw [hse, hdo]; exact g1, fun hw => by rw [hse, hdo]; exact g2 (t2 hw)⟩, ?_, ?_, ?_, ?_, ?_, ?_, ?_, ?_, fun h12 => by rw [mx] at h12; simp only at h12; omega⟩
  · rw [hse]
    have : 4 * ((h.sent ++ [m.key]).length : Int) = 4 * (h.sent.length : Int) + 4 := by simp; omega
    rw [this]
    exact s1
  · rw [hse, mk, hkn]
    rw [hkn] at hs
    exact p.lim.snoc hok p.srt hs
  · rw [hse]
    intro x hx
    rcases List.mem_append.1 hx with hx | hx
    · exact p.tin x hx
    · simp only [List.mem_cons, List.not_mem_nil, or_false] at hx
      subst hx
      rw [mk]
      exact hk
  · rw [hse]
    refine List.pairwise_append.2 ⟨p.srt, by simp, ?_⟩
    intro x hx y hy
    simp only [List.mem_cons, List.not_mem_nil, or_false] at hy
    subst hy
    rw [mk]
    have := p.lst x hx
    simp only
    omega
  · rw [hse, hla]
    intro x hx
    rcases List.mem_append.1 hx with hx | hx
    · have := p.lst x hx
      omega
    · simp only [List.mem_cons, List.not_mem_nil, or_false] at hx
      subst hx
      rw [mk]
      exact Int.le_refl _
  · rw [mx]
    exact p.spl
  · rw [hdo, mx]
    exact p.cd
  · rw [hdo, mx]
    exact p.cl
  · have hh : held (sends true c o h a).x.lines = held h.x.lines + 4 := by
      rw [g1.ln, t1.ln, held_sm, held_sm, length_set_flat Ls i l m hll]
      omega
    have hck : (sends true c o h a).x.clock = h.x.clock := by rw [mx]
    rw [hh, hck]
    rcases hd with hd | ⟨u, u1, u2⟩
    · have := hin.ex.ck0
      exact ⟨0, by omega, by omega⟩
    · exact ⟨u + 1, by omega, by omega⟩

theorem comes_tm {c : Cfg} {o : Come5} {h : Hs} (p : HsT c h) : HsT c (comes true c o h) := by
  have g0 := pk_lo o.gap 60 (by decide)
  have g1 := pk_hi o.gap 60 (by decide)
  have l1 := p.hin.l1
  obtain ⟨w1, w2, w3, w4, w5⟩ := waits_in (tame := true) (k := kOf c o) 400 (a := h.last + pk o.gap 60) p.hin (by omega) (by omega)
  obtain ⟨q1, q2, q3⟩ := waits_tm (k := kOf c o) 400 (a := h.last + pk o.gap 60) p
  obtain ⟨v, v1, v2⟩ := p.hld
  have s1 := settle_ge true c (waits true c (kOf c o) 400 h (h.last + pk o.gap 60)).1.sent (kOf c o) (waits true c (kOf c o) 400 h (h.last + pk o.gap 60)).1.x.clock (waits true c (kOf c o) 400 h (h.last + pk o.gap 60)).2
  unfold comes
  simp only
  split
  · exact q1
  · rename_i hlt
    refine sends_tm q1 ⟨by omega, by omega, by omega⟩ (t := max (waits true c (kOf c o) 400 h (h.last + pk o.gap 60)).2 (waits true c (kOf c o) 400 h (h.last + pk o.gap 60)).1.x.clock) (Int.le_refl _) ?_ ?_
    · rcases q3 with q3 | q3
      · omega
      · omega
    · rcases q3 with q3 | q3
      · exact .inl q3
      · exact .inr ⟨v, by omega, by omega⟩

theorem HsT.start {c : Cfg} (hok : cfgOk c = true) : HsT c ⟨exNew c, 0, [], []⟩ := by
  have hh : (exNew c).lines = (List.replicate c.lines.toNat ([] : List Sm)).map smL := by simp [exNew, smL]
  have hf : (List.replicate c.lines.toNat ([] : List Sm)).flatten = [] := by
    generalize c.lines.toNat = n
    induction n with
    | zero => rfl
    | succ n ih => rw [List.replicate_succ, List.flatten_cons, ih]; rfl
  refine ⟨⟨exNew_in hok, rfl, Int.le_refl _, Int.le_refl _, by simp only; omega, by simp [exNew], by simp⟩, ⟨List.replicate c.lines.toNat [], ⟨rfl, hh, ?_, ?_, by simp [exNew], rfl, rfl, by simp⟩, fun _ => ⟨rfl, ?_, by simp [kinds]⟩⟩, ?_, by simp, by simp, by simp, rfl, rfl, rfl, ⟨0, by simp [exNew], ?_⟩, by simp [exNew]⟩
  · intro l hl m hm
    have := List.eq_of_mem_replicate hl
    subst this
    simp at hm
  · rw [hf]
    simp [exNew, kinds]
  · rw [hf]
    simp only [exNew, List.map_nil, List.append_nil]
    exact Busy.start hok
  · intro k t ht x hx
    intro s
    have := (cfgLims hok ht).1 x hx
    simp [ticksOf]
    omega
  · simp only
    rw [hh, held_sm, hf]
    simp

/-- At the end. -/
structure HsEnd (c : Cfg) (h : Hs) : Prop where
  bad : h.x.ct.bad = 0
  unk : h.x.ct.unknown = 0
  spl : h.x.ct.spilled = 0
  hld : held h.x.lines = 0
  all : h.x.ct.jobs + h.x.ct.lost = h.sent.length
  jbs : h.x.ct.jobs = h.x.ct.done + h.x.jobs.length
  fit : whatI c = 1 → h.x.ct.lost = 0 ∧ h.x.ct.done = h.sent.length
  evs : ∀ e ∈ h.done, 0 ≤ e.task ∧ e.task < c.tasks.length ∧ (em c e).2 ≤ e.tick ∧ (whatI c = 1 → e.kind = 2 → e.tick ≤ (em c e).2 + boundOf c e.task ∧ e.tick ≤ e.deadline)
  mat : ∀ a, ((kinds 2 h.done).map (em c)).count a ≤ h.sent.count a
theorem flat_nil : ∀ (Ls : List (List Sm)), (∀ l ∈ Ls.map smL, l.length ≤ 3) → Ls.flatten = []
  | [], _ => rfl
  | l :: Ls, h => by
    have h1 := h (smL l) (by simp)
    rw [smL_length] at h1
    have h2 : l = [] := List.length_eq_zero_iff.1 (by omega)
    rw [List.flatten_cons, h2, flat_nil Ls fun x hx => h x (by simp only [List.map_cons, List.mem_cons]; exact .inr hx)]
    rfl
theorem HsT.end {c : Cfg} {h : Hs} (p : HsT c h) : HsEnd c (h.run 3000) := by
  have hend := exRun_end 3000 3000 p.hin.ex (by have := p.hin.ex.ck0; omega)
  obtain ⟨q, -⟩ := p.run 3000
  have hmin : min (3000 : Int) 3000 = 3000 := by decide
  have hck : 3000 ≤ (h.run 3000).x.clock := by
    have : (h.run 3000).x.clock = (exRun 3000 3000 h.x).1.clock := rfl
    omega
  generalize h.run 3000 = g at *
  obtain ⟨Ls, t1, t2⟩ := q.tm
  have hin := q.hin
  have hok : cfgOk c = true := by have := hin.ex.cfg; rw [hin.cf] at this; exact this
  have hsh := q.sh (by omega)
  rw [t1.ln] at hsh
  have hfl := flat_nil Ls hsh
  have hh : held g.x.lines = 0 := by rw [t1.ln, held_sm, hfl]; rfl
  have htot := hin.ex.rd.tot
  have hdn := hin.ex.rd.dn
  simp only at htot hdn
  rw [hh, q.spl, t1.bad, t1.unk] at htot
  have hall : g.x.ct.jobs + g.x.ct.lost = (g.sent.length : Int) := by omega
  refine ⟨t1.bad, t1.unk, q.spl, hh, hall, hdn, fun hw => ?_, fun e he => ?_, fun a => ?_⟩
  · have hf := t2 hw
    have hl : g.x.ct.lost = 0 := by
      rw [← q.cl]
      have h1 : cnt 3 g.done = ((kinds 3 g.done).length : Int) := by simp only [cnt, kinds, List.countP_eq_length_filter]
      rw [h1, hf.nl]
      rfl
    refine ⟨hl, ?_⟩
    have hj : g.x.jobs = [] := by
      cases hj : g.x.jobs with
      | nil => rfl
      | cons j js =>
        exfalso
        have hF := q.fitting hw
        have hage := hf.busy.age hok hF.lim hF.tin hF.at9 (j := jm c j) (by rw [hj]; simp)
        obtain ⟨b1, b2, b3, b4⟩ := t1.jb j (by rw [hj]; simp)
        have hbd := bound_due hw b1 b2
        have hdu := dueOf_in hok b1 b2
        have hms : jm c j ∈ g.sent := t1.perm.mem_iff.1 (by rw [hj]; simp)
        have h9 := hF.at9 _ hms
        have hco := costOf_in hok b1 b2
        obtain ⟨_, _, ⟨p1, _⟩, _, ⟨p2, _⟩, _, _⟩ := cfgNum hok
        simp only [jm] at hage h9 hck
        unfold prOf at hage
        omega
    rw [hj] at hdn
    simp at hdn
    omega
  · obtain ⟨e1, e2, e3⟩ := t1.ev e he
    refine ⟨e1, e2, e3, fun hw hk => ?_⟩
    have h1 := (t2 hw).time e (by simp [kinds, he, hk])
    refine ⟨h1, ?_⟩
    have hbd := bound_due hw e1 e2
    simp only [em] at h1
    omega
  · have := t1.perm.count_eq a
    simp only [List.count_append] at this
    omega

end Go.Proofs.Ythloffgebebijaa
