/- RefC: the walk of the reference's at; its reading of bytes as a plain function. -/
import Derived.Test.YthloffgebebijaaGreatRefB
import Derived.Test.YthloffgebebijaaGreatMath
namespace Go.Proofs.YthloffgebebijaaGreat
open Go.RowKit

/-- A byte of some; 0 behind their end. -/
def atI (bs : List Int) (i : Nat) : Int := (bs[i]?).getD 0

theorem atI_bounds {bs : List Int} (h : AllB bs) (i : Nat) : 0 ≤ atI bs i ∧ atI bs i < 256 := by
  unfold atI
  cases hx : bs[i]? with
  | none => simp
  | some x => exact h x (List.mem_of_getElem? hx)

set_option maxRecDepth 100000 in
set_option maxHeartbeats 400000 in
theorem refAt_any (B : Nat) (v : Value) (bs : List Int) (i : Nat) (j : Int) (w : World) (h : Rd8 w B v bs) (hb : AllB bs) (_hl : bs.length ≤ 140737488355328) (hj : j = i) :
    Calls Tryz.prog 58 #[v, .int .i64 j] w fun e w' => e = .returned (.int .i64 (atI bs i)) ∧ w = w' := by
  subst hj
  obtain ⟨a, cap, rfl, hcap, hv⟩ := h
  by_cases hi : i < bs.length
  · obtain ⟨x, hx⟩ := get_of_lt hi
    have hxb := hb x (List.mem_of_getElem? hx)
    obtain ⟨hx0, hx1⟩ := hxb
    rcases hv with h0 | ⟨b, o, rfl, -, hc⟩
    · rw [h0] at hi; simp at hi
    have d0 := hc i x hx
    have HE : Hid (atI bs i = x) := by simp [Hid, atI, hx]
    generalize bs.length = n at *
    clear hc hb hx
    go_enter Tryz.func58, Tryz.ntmps58
    go_wp2
    go_ret
    exact ⟨ret_int HE.out.symm, rfl⟩
  · have HE : Hid (atI bs i = 0) := by simp [Hid, atI, List.getElem?_eq_none (Nat.le_of_not_lt hi)]
    generalize bs.length = n at *
    clear hb hv
    go_enter Tryz.func58, Tryz.ntmps58
    go_wp2
    go_ret
    exact ⟨ret_int HE.out.symm, rfl⟩

/-- The reference's reading of limits: from k on, at most m of them, as long as there are bytes. -/
def refLims (bs : List Int) : Nat → Nat → List (Int × Int) × Nat
  | 0, k => ([], k)
  | m + 1, k => if k < bs.length then ((256 * atI bs k + atI bs (k + 1), atI bs (k + 2)) :: (refLims bs m (k + 3)).1, (refLims bs m (k + 3)).2) else ([], k)
def refTask (bs : List Int) (i : Nat) : Tk × Nat :=
  (⟨atI bs i, 256 * atI bs (i + 1) + atI bs (i + 2), (refLims bs (atI bs (i + 3)).toNat (i + 4)).1⟩, (refLims bs (atI bs (i + 3)).toNat (i + 4)).2)
def refTasks (bs : List Int) : Nat → Nat → List Tk × Nat
  | 0, i => ([], i)
  | n + 1, i => if i < bs.length then ((refTask bs i).1 :: (refTasks bs n (refTask bs i).2).1, (refTasks bs n (refTask bs i).2).2) else ([], i)
def refCfg (bs : List Int) : Cfg := ⟨atI bs 1, atI bs 2, atI bs 3, atI bs 4, atI bs 5, (refTasks bs (atI bs 6).toNat 7).1⟩

theorem atI_app (p : List Int) (x : Int) (r : List Int) : atI (p ++ x :: r) p.length = x := by simp [atI]

theorem refLims_bytes (p : List Int) (ls : List (Int × Int)) (r : List Int) : refLims (p ++ limBytes ls ++ r) ls.length p.length = (ls, p.length + 3 * ls.length) := by
  induction ls generalizing p with
  | nil => rfl
  | cons l t ih =>
    have e : p ++ limBytes (l :: t) ++ r = (p ++ [l.1 / 256, l.1 % 256, l.2]) ++ limBytes t ++ r := by simp [limBytes]
    have hi := ih (p ++ [l.1 / 256, l.1 % 256, l.2])
    rw [← e] at hi
    simp only [List.length_append, List.length_cons, List.length_nil] at hi
    have a0 : atI (p ++ limBytes (l :: t) ++ r) p.length = l.1 / 256 := by simp [atI, limBytes]
    have a1 : atI (p ++ limBytes (l :: t) ++ r) (p.length + 1) = l.1 % 256 := by simp [atI, limBytes]
    have a2 : atI (p ++ limBytes (l :: t) ++ r) (p.length + 2) = l.2 := by simp [atI, limBytes]
    rw [List.length_cons, refLims, if_pos (by simp [limBytes]), a0, a1, a2, hi]
    have : 256 * (l.1 / 256) + l.1 % 256 = l.1 := by omega
    rw [this]
    simp; omega

theorem refTask_bytes (p : List Int) (t : Tk) (r : List Int) : refTask (p ++ taskBytes t ++ r) p.length = (t, p.length + (taskBytes t).length) := by
  obtain ⟨cost, due, ls⟩ := t
  have a0 : atI (p ++ taskBytes ⟨cost, due, ls⟩ ++ r) p.length = cost := by simp [atI, taskBytes]
  have a1 : atI (p ++ taskBytes ⟨cost, due, ls⟩ ++ r) (p.length + 1) = due / 256 := by simp [atI, taskBytes]
  have a2 : atI (p ++ taskBytes ⟨cost, due, ls⟩ ++ r) (p.length + 2) = due % 256 := by simp [atI, taskBytes]
  have a3 : atI (p ++ taskBytes ⟨cost, due, ls⟩ ++ r) (p.length + 3) = (ls.length : Int) := by simp [atI, taskBytes]
  have e : p ++ taskBytes ⟨cost, due, ls⟩ ++ r = (p ++ [cost, due / 256, due % 256, (ls.length : Int)]) ++ limBytes ls ++ r := by simp [taskBytes]
  have hl := refLims_bytes (p ++ [cost, due / 256, due % 256, (ls.length : Int)]) ls r
  rw [← e] at hl
  simp only [List.length_append, List.length_cons, List.length_nil] at hl
  have hd : 256 * (due / 256) + due % 256 = due := by omega
  unfold refTask
  rw [a0, a1, a2, a3, hd, Int.toNat_natCast, hl]
  simp [taskBytes, limBytes_length]; omega

theorem refTasks_bytes (p : List Int) (ts : List Tk) (r : List Int) : refTasks (p ++ ts.flatMap taskBytes ++ r) ts.length p.length = (ts, p.length + (ts.flatMap taskBytes).length) := by
  induction ts generalizing p with
  | nil => rfl
  | cons t u ih =>
    have e : p ++ (t :: u).flatMap taskBytes ++ r = p ++ taskBytes t ++ (u.flatMap taskBytes ++ r) := by simp
    have e2 : p ++ (t :: u).flatMap taskBytes ++ r = (p ++ taskBytes t) ++ u.flatMap taskBytes ++ r := by simp
    have h1 := refTask_bytes p t (u.flatMap taskBytes ++ r)
    have h2 := ih (p ++ taskBytes t)
    rw [← e] at h1
    rw [← e2, List.length_append] at h2
    have hlt : p.length < (p ++ (t :: u).flatMap taskBytes ++ r).length := by simp [taskBytes]
    rw [List.length_cons, refTasks, if_pos hlt, h1, h2]
    simp; omega

/-- Its reading of a configuration's bytes is the configuration. -/
theorem refCfg_bytes (c : Cfg) : refCfg (cfgBytes c) = c := by
  obtain ⟨x1, x2, x3, x4, x5, ts⟩ := c
  have e : cfgBytes ⟨x1, x2, x3, x4, x5, ts⟩ = [84, x1, x2, x3, x4, x5, (ts.length : Int)] ++ ts.flatMap taskBytes ++ [(-(bsum (cfgBytes0 ⟨x1, x2, x3, x4, x5, ts⟩))) % 256] := rfl
  have h := refTasks_bytes [84, x1, x2, x3, x4, x5, (ts.length : Int)] ts [(-(bsum (cfgBytes0 ⟨x1, x2, x3, x4, x5, ts⟩))) % 256]
  rw [← e] at h
  have a1 : atI (cfgBytes ⟨x1, x2, x3, x4, x5, ts⟩) 1 = x1 := by rw [e]; simp [atI]
  have a2 : atI (cfgBytes ⟨x1, x2, x3, x4, x5, ts⟩) 2 = x2 := by rw [e]; simp [atI]
  have a3 : atI (cfgBytes ⟨x1, x2, x3, x4, x5, ts⟩) 3 = x3 := by rw [e]; simp [atI]
  have a4 : atI (cfgBytes ⟨x1, x2, x3, x4, x5, ts⟩) 4 = x4 := by rw [e]; simp [atI]
  have a5 : atI (cfgBytes ⟨x1, x2, x3, x4, x5, ts⟩) 5 = x5 := by rw [e]; simp [atI]
  have a6 : atI (cfgBytes ⟨x1, x2, x3, x4, x5, ts⟩) 6 = (ts.length : Int) := by rw [e]; simp [atI]
  unfold refCfg
  rw [a1, a2, a3, a4, a5, a6, Int.toNat_natCast]
  simp only [List.length_cons, List.length_nil] at h
  rw [h]

/-- So what it answers is what the program answers. -/
theorem dec_eq_ref {bs : List Int} (hb : AllB bs) : dec bs = if cfgOk (refCfg bs) = true ∧ cfgBytes (refCfg bs) = bs then some (refCfg bs) else none := by
  split
  · rename_i h
    have := dec_cfg (refCfg bs) h.1
    rwa [h.2] at this
  · rename_i h
    cases hd : dec bs with
    | none => rfl
    | some c =>
      exfalso
      have := dec_inv hb hd
      apply h
      rw [← this.2, refCfg_bytes]
      exact ⟨this.1, rfl⟩

end Go.Proofs.YthloffgebebijaaGreat
