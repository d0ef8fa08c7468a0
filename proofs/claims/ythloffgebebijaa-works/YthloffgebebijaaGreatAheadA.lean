/- AheadA: what is known ahead of a configuration, as plain numbers, and their bounds. -/
import Derived.Test.YthloffgebebijaaGreatData
import Derived.Test.YthloffgebebijaaGreatBytesA
namespace Go.Proofs.YthloffgebebijaaGreat
open Go.RowKit

def atMostI (l : Int × Int) (k : Int) : Int := l.2 * (k + l.1 - 1).tdiv l.1
def mostL (k : Int) : List (Int × Int) → Int
  | [] => 0
  | l :: r => r.foldl (fun m l => min m (atMostI l k)) (atMostI l k)
def mostI (t : Tk) (k : Int) : Int := if k ≤ 0 then 0 else mostL k t.lims
def priceI (c : Cfg) (t : Tk) : Int := c.poll + c.sw + t.cost
def longestI (c : Cfg) : Int := c.tasks.foldl (fun m t => max m (priceI c t)) (c.poll + c.idle)
def demandI (c : Cfg) (n : Int) : Int := c.tasks.foldl (fun s t => s + mostI t (n - t.due) * priceI c t) 0
/-- The greatest of demand of n - n, over i lengths behind f. -/
def worstI (c : Cfg) (f : Int) : Nat → Int
  | 0 => demandI c f - f
  | i + 1 => max (worstI c f i) (demandI c (f + (i + 1)) - (f + (i + 1)))
def boundI (c : Cfg) (t : Tk) : Int := t.due + longestI c + worstI c (t.due + 1) 999
def needI (c : Cfg) : Int := c.tasks.foldl (fun s t => s + mostI t (boundI c t)) 0
def lateB (c : Cfg) : Bool := c.tasks.any fun t => decide (t.due < boundI c t)
def whatI (c : Cfg) : Int := if lateB c = true then 2 else if c.room < needI c then 3 else 1

theorem tdiv_up {k w : Int} (hk : 1 ≤ k) (hw : 1 ≤ w) : (k + w - 1).tdiv w = k.tdiv w + (if k.tmod w = 0 then 0 else 1) := by
  rw [Int.tdiv_eq_ediv_of_nonneg (by omega), Int.tdiv_eq_ediv_of_nonneg (by omega), Int.tmod_eq_emod_of_nonneg (by omega)]
  have h1 := Int.emod_add_mul_ediv k w
  have h2 := Int.emod_nonneg k (show w ≠ 0 by omega)
  have h3 := Int.emod_lt_of_pos k (show 0 < w by omega)
  split
  · rename_i h
    have e : k + w - 1 = w * (k / w) + (w - 1) := by rw [h] at h1; omega
    have e2 : (w - 1) / w = 0 := Int.ediv_eq_zero_of_lt (by omega) (by omega)
    rw [e, Int.mul_add_ediv_left _ _ (by omega), e2]
  · rename_i h
    have e : k + w - 1 = w * (k / w + 1) + (k % w - 1) := by rw [Int.mul_add]; omega
    have e2 : (k % w - 1) / w = 0 := Int.ediv_eq_zero_of_lt (by omega) (by omega)
    rw [e, Int.mul_add_ediv_left _ _ (by omega), e2]
    omega

theorem atMost_bounds {l : Int × Int} {k : Int} (hk : 1 ≤ k) (h1 : 1 ≤ l.1) (h2 : 1 ≤ l.2) (h3 : l.2 ≤ 20) : 0 ≤ atMostI l k ∧ atMostI l k ≤ 20 * k := by
  have h0 : 0 ≤ (k + l.1 - 1).tdiv l.1 := Int.tdiv_nonneg (by omega) (by omega)
  have hle : (k + l.1 - 1).tdiv l.1 ≤ k := by
    rw [Int.tdiv_eq_ediv_of_nonneg (by omega)]
    apply Int.le_of_lt_add_one
    apply Int.ediv_lt_of_lt_mul (by omega)
    have : 0 ≤ (k - 1) * (l.1 - 1) := Int.mul_nonneg (by omega) (by omega)
    have e : (k - 1) * (l.1 - 1) = k * l.1 - k - l.1 + 1 := by rw [Int.sub_mul, Int.mul_sub]; omega
    have e2 : (k + 1) * l.1 = k * l.1 + l.1 := by rw [Int.add_mul]; omega
    omega
  refine ⟨Int.mul_nonneg (by omega) h0, ?_⟩
  unfold atMostI
  exact Int.le_trans (Int.mul_le_mul_of_nonneg_right h3 h0) (Int.mul_le_mul_of_nonneg_left hle (by omega))

def LimsIn (ls : List (Int × Int)) : Prop := ∀ l ∈ ls, 1 ≤ l.1 ∧ l.1 ≤ 500 ∧ 1 ≤ l.2 ∧ l.2 ≤ 20

theorem foldl_min_bounds {k B : Int} (hk : 1 ≤ k) (hB : 20 * k ≤ B) : ∀ (r : List (Int × Int)) (m : Int), 0 ≤ m → m ≤ B → LimsIn r → 0 ≤ r.foldl (fun m l => min m (atMostI l k)) m ∧ r.foldl (fun m l => min m (atMostI l k)) m ≤ B
  | [], m, h0, h1, _ => ⟨h0, h1⟩
  | l :: r, m, h0, h1, hl => by
    have := hl l (by simp)
    have hb := atMost_bounds hk this.1 this.2.2.1 this.2.2.2
    exact foldl_min_bounds hk hB r (min m (atMostI l k)) (by omega) (by omega) (fun x hx => hl x (by simp [hx]))
theorem most_bounds {t : Tk} (h : LimsIn t.lims) {k K : Int} (hk : k ≤ K) (hK : 0 ≤ K) : 0 ≤ mostI t k ∧ mostI t k ≤ 20 * K := by
  unfold mostI
  split
  · omega
  · rename_i hk0
    cases hl : t.lims with
    | nil => simp only [mostL]; omega
    | cons l r =>
      rw [hl] at h
      have := h l (by simp)
      have hb := atMost_bounds (k := k) (by omega) this.1 this.2.2.1 this.2.2.2
      simp only [mostL]
      exact foldl_min_bounds (by omega) (by omega) r _ hb.1 (by omega) (fun x hx => h x (by simp [hx]))

/-- A task that may be: its numbers. -/
structure TkIn (t : Tk) : Prop where
  c1 : 1 ≤ t.cost
  c2 : t.cost ≤ 50
  d1 : 1 ≤ t.due
  d2 : t.due ≤ 400
  l1 : 1 ≤ t.lims.length
  l2 : t.lims.length ≤ 3
  ls : LimsIn t.lims
theorem TkIn.of {t : Tk} (h : taskOk t = true) : TkIn t := by
  simp only [taskOk, limsOk, Bool.and_eq_true, decide_eq_true_eq] at h
  obtain ⟨⟨k1, k2⟩, ⟨k3, k4⟩, ⟨k5, k6⟩, k7⟩ := h
  exact ⟨k1, k2, k3, k4, k5, k6, vl_bounds k7 (by decide) (by decide)⟩

structure CfIn (c : Cfg) : Prop where
  p1 : 1 ≤ c.poll
  p2 : c.poll ≤ 20
  i1 : 0 ≤ c.idle
  i2 : c.idle ≤ 20
  s1 : 0 ≤ c.sw
  s2 : c.sw ≤ 20
  n1 : 1 ≤ c.tasks.length
  n2 : c.tasks.length ≤ 6
  ts : ∀ t ∈ c.tasks, TkIn t
  r1 : 1 ≤ c.room
  r2 : c.room ≤ 40

theorem price_bounds {c : Cfg} (h : CfIn c) {t : Tk} (ht : TkIn t) : 2 ≤ priceI c t ∧ priceI c t ≤ 90 := by
  have := h.p1; have := h.p2; have := h.s1; have := h.s2; have := ht.c1; have := ht.c2
  unfold priceI
  omega
theorem foldl_max_bounds {c : Cfg} (h : CfIn c) : ∀ (ts : List Tk) (m : Int), 0 ≤ m → m ≤ 90 → (∀ t ∈ ts, TkIn t) → 0 ≤ ts.foldl (fun m t => max m (priceI c t)) m ∧ ts.foldl (fun m t => max m (priceI c t)) m ≤ 90
  | [], m, h0, h1, _ => ⟨h0, h1⟩
  | t :: r, m, h0, h1, ht => by
    have hb := price_bounds h (ht t (by simp))
    exact foldl_max_bounds h r (max m (priceI c t)) (by omega) (by omega) (fun x hx => ht x (by simp [hx]))
theorem longest_take {c : Cfg} (h : CfIn c) (k : Nat) : 0 ≤ (c.tasks.take k).foldl (fun m t => max m (priceI c t)) (c.poll + c.idle) ∧ (c.tasks.take k).foldl (fun m t => max m (priceI c t)) (c.poll + c.idle) ≤ 90 := by
  have := h.p1; have := h.p2; have := h.i1; have := h.i2
  exact foldl_max_bounds h _ _ (by omega) (by omega) (fun t ht => h.ts t (List.mem_of_mem_take ht))
theorem longest_bounds {c : Cfg} (h : CfIn c) : 0 ≤ longestI c ∧ longestI c ≤ 90 := by
  have := longest_take h c.tasks.length
  rw [List.take_length] at this
  exact this

theorem term_bounds {c : Cfg} (h : CfIn c) {t : Tk} (ht : TkIn t) {k K : Int} (hk : k ≤ K) (hK : 0 ≤ K) : 0 ≤ mostI t k * priceI c t ∧ mostI t k * priceI c t ≤ 1800 * K := by
  have hm := most_bounds ht.ls hk hK
  have hp := price_bounds h ht
  refine ⟨Int.mul_nonneg hm.1 (by omega), ?_⟩
  have h1 : mostI t k * priceI c t ≤ mostI t k * 90 := Int.mul_le_mul_of_nonneg_left hp.2 hm.1
  omega
theorem foldl_sum_bounds {c : Cfg} (h : CfIn c) {n K : Int} (hn : n ≤ K) (hK : 0 ≤ K) : ∀ (ts : List Tk) (s : Int), 0 ≤ s → (∀ t ∈ ts, TkIn t) → 0 ≤ ts.foldl (fun s t => s + mostI t (n - t.due) * priceI c t) s ∧ ts.foldl (fun s t => s + mostI t (n - t.due) * priceI c t) s ≤ s + ts.length * (1800 * K)
  | [], s, h0, _ => ⟨h0, by simp⟩
  | t :: r, s, h0, ht => by
    have htk := ht t (by simp)
    have hb := term_bounds h htk (k := n - t.due) (K := K) (by have := htk.d1; omega) hK
    have ih := foldl_sum_bounds h hn hK r (s + mostI t (n - t.due) * priceI c t) (by omega) (fun x hx => ht x (by simp [hx]))
    refine ⟨ih.1, ?_⟩
    have e : ((t :: r).length : Int) * (1800 * K) = r.length * (1800 * K) + 1800 * K := by rw [List.length_cons]; push_cast; rw [Int.add_mul]; omega
    rw [e]
    have := ih.2
    simp only [List.foldl_cons]
    omega
theorem demand_take {c : Cfg} (h : CfIn c) {n : Int} (hn : n ≤ 1400) (k : Nat) : 0 ≤ (c.tasks.take k).foldl (fun s t => s + mostI t (n - t.due) * priceI c t) 0 ∧ (c.tasks.take k).foldl (fun s t => s + mostI t (n - t.due) * priceI c t) 0 ≤ 20000000 := by
  have hb := foldl_sum_bounds h (K := 1400) hn (by decide) (c.tasks.take k) 0 (by decide) (fun t ht => h.ts t (List.mem_of_mem_take ht))
  refine ⟨hb.1, Int.le_trans hb.2 ?_⟩
  have : (c.tasks.take k).length ≤ 6 := by rw [List.length_take]; have := h.n2; omega
  omega
theorem demand_bounds {c : Cfg} (h : CfIn c) {n : Int} (hn : n ≤ 1400) : 0 ≤ demandI c n ∧ demandI c n ≤ 20000000 := by
  have := demand_take h hn c.tasks.length
  rw [List.take_length] at this
  exact this
theorem worst_bounds {c : Cfg} (h : CfIn c) {f : Int} (hf : 0 ≤ f) : ∀ i : Nat, f + i ≤ 1400 → -1400 ≤ worstI c f i ∧ worstI c f i ≤ 20000000
  | 0, hi => by
    have := demand_bounds h (n := f) (by omega)
    simp only [worstI]
    omega
  | i + 1, hi => by
    have ih := worst_bounds h hf i (by omega)
    have := demand_bounds h (n := f + (i + 1)) (by push_cast at hi; omega)
    simp only [worstI]
    push_cast at hi
    omega
theorem bound_bounds {c : Cfg} (h : CfIn c) {t : Tk} (ht : TkIn t) : -1400 ≤ boundI c t ∧ boundI c t ≤ 20001000 := by
  have := worst_bounds h (f := t.due + 1) (by have := ht.d1; omega) 999 (by have := ht.d2; omega)
  have := longest_bounds h
  have := ht.d1; have := ht.d2
  unfold boundI
  omega
theorem foldl_need_bounds {c : Cfg} (h : CfIn c) : ∀ (ts : List Tk) (s : Int), 0 ≤ s → (∀ t ∈ ts, TkIn t) → 0 ≤ ts.foldl (fun s t => s + mostI t (boundI c t)) s ∧ ts.foldl (fun s t => s + mostI t (boundI c t)) s ≤ s + ts.length * 400020000
  | [], s, h0, _ => ⟨h0, by simp⟩
  | t :: r, s, h0, ht => by
    have htk := ht t (by simp)
    have hb := most_bounds htk.ls (bound_bounds h htk).2 (by decide)
    have ih := foldl_need_bounds h r (s + mostI t (boundI c t)) (by omega) (fun x hx => ht x (by simp [hx]))
    refine ⟨ih.1, ?_⟩
    have := ih.2
    simp only [List.foldl_cons, List.length_cons]
    push_cast
    omega
theorem need_take {c : Cfg} (h : CfIn c) (k : Nat) : 0 ≤ (c.tasks.take k).foldl (fun s t => s + mostI t (boundI c t)) 0 ∧ (c.tasks.take k).foldl (fun s t => s + mostI t (boundI c t)) 0 ≤ 3000000000 := by
  have hb := foldl_need_bounds h (c.tasks.take k) 0 (by decide) (fun t ht => h.ts t (List.mem_of_mem_take ht))
  refine ⟨hb.1, Int.le_trans hb.2 ?_⟩
  have : (c.tasks.take k).length ≤ 6 := by rw [List.length_take]; have := h.n2; omega
  omega

end Go.Proofs.YthloffgebebijaaGreat
