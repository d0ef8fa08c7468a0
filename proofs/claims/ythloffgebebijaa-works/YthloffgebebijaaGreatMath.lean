/- Math: plain facts: what is encoded is decoded again; with one byte turned it is not; what is decoded has just its bytes. -/
import Derived.Test.YthloffgebebijaaGreatParse
import Derived.Test.YthloffgebebijaaGreatSetA
namespace Go.Proofs.YthloffgebebijaaGreat
open Go.RowKit

theorem one_cons (x : Int) (r : List Int) (b : Bool) : one (x :: r, b) = (x, (r, b)) := rfl
theorem two_cons (x y : Int) (r : List Int) (b : Bool) : two (x :: y :: r, b) = (x * 256 + y, (r, b)) := rfl

theorem limsRd_bytes (ls : List (Int × Int)) (rest : List Int) (b : Bool) : limsRd ls.length (limBytes ls ++ rest, b) = (ls, (rest, b)) := by
  induction ls with
  | nil => rfl
  | cons l r ih =>
    have e : limBytes (l :: r) ++ rest = l.1 / 256 :: l.1 % 256 :: l.2 :: (limBytes r ++ rest) := by simp [limBytes]
    rw [e, List.length_cons, limsRd, two_cons, one_cons, ih]
    have : l.1 / 256 * 256 + l.1 % 256 = l.1 := by omega
    simp [this]

theorem lenOf_small {m x : Int} (h : x ≤ m) (r : List Int) (b : Bool) : lenOf m (x :: r, b) = (x, (r, b)) := by
  unfold lenOf; rw [one_cons, if_neg (by omega)]

theorem taskRd_bytes (t : Tk) (h : t.lims.length ≤ 3) (rest : List Int) (b : Bool) : taskRd (taskBytes t ++ rest, b) = (t, (rest, b)) := by
  obtain ⟨cost, due, ls⟩ := t
  simp only at h
  have e : taskBytes ⟨cost, due, ls⟩ ++ rest = cost :: due / 256 :: due % 256 :: (ls.length : Int) :: (limBytes ls ++ rest) := by simp [taskBytes]
  have hd : due / 256 * 256 + due % 256 = due := by omega
  rw [e]
  simp only [taskRd, one_cons, two_cons, lenOf_small (show (ls.length : Int) ≤ 3 by omega), Int.toNat_natCast, limsRd_bytes, hd]

theorem tasksRd_bytes (ts : List Tk) (h : ∀ t ∈ ts, t.lims.length ≤ 3) (rest : List Int) (b : Bool) : tasksRd ts.length (ts.flatMap taskBytes ++ rest, b) = (ts, (rest, b)) := by
  induction ts with
  | nil => rfl
  | cons t r ih =>
    rw [List.flatMap_cons, List.append_assoc, List.length_cons, tasksRd, taskRd_bytes t (h t (by simp)), ih (fun t' ht => h t' (by simp [ht]))]

theorem lims_le {t : Tk} (h : taskOk t = true) : t.lims.length ≤ 3 := by
  simp only [taskOk, limsOk, Bool.and_eq_true, decide_eq_true_eq] at h
  omega

theorem cfgRd_bytes (c : Cfg) (h : cfgOk c = true) : cfgRd ([c.lines, c.room, c.poll, c.idle, c.sw, (c.tasks.length : Int)] ++ c.tasks.flatMap taskBytes, false) = (c, ([], false)) := by
  obtain ⟨_, _, _, _, _, h6, h7⟩ := cfgOk_parts h
  obtain ⟨x1, x2, x3, x4, x5, ts⟩ := c
  simp only at h6 h7
  have := tasksRd_bytes ts (fun t ht => lims_le (List.all_eq_true.1 h7 t ht)) [] false
  rw [List.append_nil] at this
  simp only [List.cons_append, List.nil_append, cfgRd, st1, st2, st3, st4, st5, one_cons, lenOf_small (show (ts.length : Int) ≤ 6 by omega), Int.toNat_natCast, this]

theorem inner_of (x y : Int) (m : List Int) : inner (x :: m ++ [y]) = m := by simp [inner]

theorem cfgBytes_shape (c : Cfg) : cfgBytes c = 84 :: ([c.lines, c.room, c.poll, c.idle, c.sw, (c.tasks.length : Int)] ++ c.tasks.flatMap taskBytes) ++ [(-(bsum (cfgBytes0 c))) % 256] := by
  simp [cfgBytes, cfgBytes0, head7]

theorem bsum_cfg (c : Cfg) : bsum (cfgBytes c) = 0 := by
  rw [cfgBytes, bsum_snoc]
  have : 0 ≤ bsum (cfgBytes0 c) ∧ bsum (cfgBytes0 c) < 256 := by unfold bsum; omega
  omega

/-- What is encoded is decoded again. -/
theorem dec_cfg (c : Cfg) (h : cfgOk c = true) : dec (cfgBytes c) = some c := by
  have hs := bsum_cfg c
  rw [cfgBytes_shape] at hs ⊢
  have hi := inner_of 84 ((-(bsum (cfgBytes0 c))) % 256) ([c.lines, c.room, c.poll, c.idle, c.sw, (c.tasks.length : Int)] ++ c.tasks.flatMap taskBytes)
  unfold dec
  rw [hi, cfgRd_bytes c h, hs]
  simp [h]

theorem cfgBytes_allB {c : Cfg} (h : cfgOk c = true) : AllB (cfgBytes c) := by
  intro x hx
  rw [cfgBytes, List.mem_append] at hx
  rcases hx with hx | hx
  · exact cfgBytes0_byte h x hx
  · simp at hx; omega

theorem cfgBytes_len {c : Cfg} (h : cfgOk c = true) : 8 ≤ (cfgBytes c).length ∧ (cfgBytes c).length ≤ 100 := by
  obtain ⟨_, _, _, _, _, h6, h7⟩ := cfgOk_parts h
  have := flat_len h7
  simp only [cfgBytes, cfgBytes0, head7, List.length_append, List.length_cons, List.length_nil]
  omega

theorem sum_set (l : List Int) (k : Nat) (x y : Int) (h : l[k]? = some x) : (l.set k y).sum = l.sum - x + y := by
  induction l generalizing k with
  | nil => simp at h
  | cons a r ih =>
    cases k with
    | zero => simp at h; subst h; simp; omega
    | succ k => simp at h; simp [ih k h]; omega

/-- With one byte turned the sum is not right. -/
theorem dec_turned (l : List Int) (k : Nat) (x d : Int) (hs : bsum l = 0) (h : l[k]? = some x) (h1 : 1 ≤ d) (h2 : d ≤ 255) : dec (l.set k ((x + d) % 256)) = none := by
  have : bsum (l.set k ((x + d) % 256)) ≠ 0 := by
    unfold bsum at hs ⊢
    rw [sum_set l k x _ h]
    omega
  unfold dec
  rw [if_pos (.inr (.inr this))]

theorem one_inv {s : List Int × Bool} (h : (one s).2.2 = false) : s.1 = (one s).1 :: (one s).2.1 ∧ s.2 = false := by
  obtain ⟨bs, b⟩ := s
  cases bs with
  | nil => simp [one] at h
  | cons x r => exact ⟨rfl, h⟩
theorem two_inv {s : List Int × Bool} (hb : AllB s.1) (h : (two s).2.2 = false) : s.1 = (two s).1 / 256 :: (two s).1 % 256 :: (two s).2.1 ∧ s.2 = false := by
  have h2 := one_inv (s := (one s).2) h
  have h1 := one_inv h2.2
  have v1 := one_val (one_allB hb)
  have e1 : ((one s).1 * 256 + (one (one s).2).1) / 256 = (one s).1 := by omega
  have e2 : ((one s).1 * 256 + (one (one s).2).1) % 256 = (one (one s).2).1 := by omega
  refine ⟨?_, h1.2⟩
  simp only [two, e1, e2]
  rw [← h2.1]
  exact h1.1
theorem lenOf_inv {m : Int} {s : List Int × Bool} (h : (lenOf m s).2.2 = false) : s.1 = (lenOf m s).1 :: (lenOf m s).2.1 ∧ s.2 = false := by
  unfold lenOf at h ⊢
  split at h
  · simp at h
  · rename_i hc
    rw [if_neg hc]
    exact one_inv h
theorem limsRd_inv {n : Nat} {s : List Int × Bool} (hb : AllB s.1) (h : (limsRd n s).2.2 = false) : s.1 = limBytes (limsRd n s).1 ++ (limsRd n s).2.1 ∧ s.2 = false ∧ (limsRd n s).1.length = n := by
  induction n generalizing s with
  | zero => exact ⟨rfl, h, rfl⟩
  | succ n ih =>
    have hi := ih (s := (one (two s).2).2) (one_allB (two_allB hb)) h
    have h1 := one_inv hi.2.1
    have h2 := two_inv hb h1.2
    refine ⟨?_, h2.2, ?_⟩
    · rw [h2.1, h1.1, hi.1]
      simp [limsRd, limBytes]
    · simp [limsRd, hi.2.2]
theorem taskRd_inv {s : List Int × Bool} (hb : AllB s.1) (h : (taskRd s).2.2 = false) : s.1 = taskBytes (taskRd s).1 ++ (taskRd s).2.1 ∧ s.2 = false := by
  have hb1 := one_allB hb
  have hb2 := two_allB hb1
  have hi := limsRd_inv (lenOf_allB (m := 3) hb2) h
  have h3 := lenOf_inv hi.2.1
  have h2 := two_inv hb1 h3.2
  have h1 := one_inv h2.2
  have hv := lenOf_val (m := 3) (by decide) hb2
  refine ⟨?_, h1.2⟩
  have e : ((limsRd (lenOf 3 (two (one s).2).2).1.toNat (lenOf 3 (two (one s).2).2).2).1.length : Int) = (lenOf 3 (two (one s).2).2).1 := by rw [hi.2.2]; omega
  simp only [taskRd, taskBytes, e]
  simp only [List.cons_append, List.nil_append]
  rw [← hi.1, ← h3.1, ← h2.1, ← h1.1]
theorem tasksRd_inv {n : Nat} {s : List Int × Bool} (hb : AllB s.1) (h : (tasksRd n s).2.2 = false) : s.1 = (tasksRd n s).1.flatMap taskBytes ++ (tasksRd n s).2.1 ∧ s.2 = false ∧ (tasksRd n s).1.length = n := by
  induction n generalizing s with
  | zero => exact ⟨rfl, h, rfl⟩
  | succ n ih =>
    have hi := ih (s := (taskRd s).2) (taskRd_allB hb) h
    have h1 := taskRd_inv hb hi.2.1
    refine ⟨?_, h1.2, ?_⟩
    · rw [h1.1, hi.1]
      simp [tasksRd]
    · simp [tasksRd, hi.2.2]
theorem cfgRd_inv {s : List Int × Bool} (hb : AllB s.1) (h : (cfgRd s).2.2 = false) : s.1 = [(cfgRd s).1.lines, (cfgRd s).1.room, (cfgRd s).1.poll, (cfgRd s).1.idle, (cfgRd s).1.sw, ((cfgRd s).1.tasks.length : Int)] ++ (cfgRd s).1.tasks.flatMap taskBytes ++ (cfgRd s).2.1 ∧ s.2 = false := by
  have hb1 : AllB (st1 s).1 := one_allB hb
  have hb2 : AllB (st2 s).1 := one_allB hb1
  have hb3 : AllB (st3 s).1 := one_allB hb2
  have hb4 : AllB (st4 s).1 := one_allB hb3
  have hb5 : AllB (st5 s).1 := one_allB hb4
  have hi := tasksRd_inv (lenOf_allB (m := 6) hb5) h
  have h6 := lenOf_inv hi.2.1
  have h5 := one_inv (s := st4 s) h6.2
  have h4 := one_inv (s := st3 s) h5.2
  have h3 := one_inv (s := st2 s) h4.2
  have h2 := one_inv (s := st1 s) h3.2
  have h1 := one_inv (s := s) h2.2
  have hv := lenOf_val (m := 6) (by decide) hb5
  refine ⟨?_, h1.2⟩
  have e : ((tasksRd (lenOf 6 (st5 s)).1.toNat (lenOf 6 (st5 s)).2).1.length : Int) = (lenOf 6 (st5 s)).1 := by rw [hi.2.2]; omega
  simp only [cfgRd, e]
  simp only [List.cons_append, List.nil_append]
  rw [← hi.1, ← h6.1, show (st5 s).1 = (one (st4 s)).2.1 from rfl, ← h5.1, show (st4 s).1 = (one (st3 s)).2.1 from rfl, ← h4.1, show (st3 s).1 = (one (st2 s)).2.1 from rfl, ← h3.1, show (st2 s).1 = (one (st1 s)).2.1 from rfl, ← h2.1, show (st1 s).1 = (one s).2.1 from rfl, ← h1.1]

/-- What is decoded is a configuration, and has just these bytes. -/
theorem dec_inv {bs : List Int} {c : Cfg} (hb : AllB bs) (h : dec bs = some c) : cfgOk c = true ∧ cfgBytes c = bs := by
  unfold dec at h
  split at h
  · simp at h
  rename_i h0
  split at h
  · simp at h
  rename_i h1
  simp only [Option.some.injEq] at h
  subst h
  simp only [not_or, Bool.not_eq_true, Decidable.not_not, ne_eq, Bool.not_eq_false] at h0 h1
  obtain ⟨hl, hh, hs⟩ := h0
  obtain ⟨hbad, hrest, hok⟩ := h1
  refine ⟨hok, ?_⟩
  have hib : AllB (inner bs) := fun x hx => hb x (List.mem_of_mem_drop (List.mem_of_mem_take hx))
  have hinv := (cfgRd_inv (s := (inner bs, false)) hib hbad).1
  rw [hrest, List.append_nil] at hinv
  simp only at hinv
  -- bs = 84 :: inner bs ++ [last]
  obtain ⟨y, hy⟩ : ∃ y, bs = 84 :: inner bs ++ [y] := by
    cases bs with
    | nil => simp at hl
    | cons x r =>
      simp at hh
      subst hh
      have hr : r ≠ [] := by intro h; subst h; simp at hl
      refine ⟨r.getLast hr, ?_⟩
      have : inner (84 :: r) = r.dropLast := by simp [inner, List.dropLast_eq_take]
      rw [this, List.cons_append, List.dropLast_concat_getLast]
  have hy' := hb y (by rw [hy]; simp)
  rw [cfgBytes_shape, ← hinv]
  have h00 : cfgBytes0 (cfgRd (inner bs, false)).1 = 84 :: inner bs := by
    have hx : ∀ c : Cfg, cfgBytes0 c = 84 :: ([c.lines, c.room, c.poll, c.idle, c.sw, (c.tasks.length : Int)] ++ c.tasks.flatMap taskBytes) := fun c => by simp [cfgBytes0, head7]
    rw [hx, ← hinv]
  rw [h00]
  have hsum : bsum (84 :: inner bs ++ [y]) = 0 := by rw [← hy]; exact hs
  rw [bsum_snoc] at hsum
  have : (-(bsum (84 :: inner bs))) % 256 = y := by
    have : 0 ≤ bsum (84 :: inner bs) ∧ bsum (84 :: inner bs) < 256 := by unfold bsum; omega
    omega
  rw [this]
  exact hy.symm

theorem pk_range (c n : Int) (h : 0 < n) : 0 ≤ pk c n ∧ pk c n < n := ⟨pk_lo c n h, pk_hi c n h⟩

theorem mkTask_ok (easy : Bool) (r : Raw5) : taskOk (mkTask easy r) = true := by
  have a1 := pk_range r.cost 8 (by decide)
  have a2 := pk_range r.cost 50 (by decide)
  have a3 := pk_range r.due 300 (by decide)
  have a4 := pk_range r.due 400 (by decide)
  have a5 := pk_range r.window 300 (by decide)
  have a6 := pk_range r.window 400 (by decide)
  have a7 := pk_range r.count 3 (by decide)
  have a8 := pk_range r.more 100 (by decide)
  cases easy <;> by_cases hm : r.more.tmod 2 = 0 <;> simp [mkTask, taskOk, limsOk, vl, hm] <;> omega

theorem mkCfg_ok (lines room price : Int) (rs : List Raw5) (easy : Bool) : cfgOk (mkCfg lines room price rs easy) = true := by
  have a1 := pk_range lines 4 (by decide)
  have a2 := pk_range room 40 (by decide)
  have a3 := pk_range price 3 (by decide)
  have a4 := pk_range (price.tdiv 3) 4 (by decide)
  have a5 := pk_range (price.tdiv 12) 3 (by decide)
  have ht : tasksOk (mkTasks easy rs) = true := by
    unfold mkTasks
    split
    · decide
    · rename_i h
      have hl : 1 ≤ rs.length := List.length_pos_iff.2 h
      simp only [tasksOk, Bool.and_eq_true, decide_eq_true_eq, List.length_map, List.length_take, List.all_map, List.all_eq_true]
      exact ⟨by omega, fun r _ => mkTask_ok easy r⟩
  unfold cfgOk mkCfg
  simp only [ht, Bool.and_true]
  rw [decide_eq_true (by omega), decide_eq_true (by omega), decide_eq_true (by omega), decide_eq_true (by omega), decide_eq_true (by omega)]
  rfl

end Go.Proofs.YthloffgebebijaaGreat
