/- LineA: the reading of a line in two goes (its messages first, then what becomes of each) is the executive's reading in one go; what it takes off a line; what stands in an executive. No function of the program is named here. -/
import Derived.Test.YthloffgebebijaaHeapA
namespace Go.Proofs.Ythloffgebebijaa
open Go.RowKit

/-- A message: its task, its cost, its last byte's tick. -/
structure Mg where
  task : Int
  cost : Int
  tick : Int

/-- Four bytes that are a message. -/
def isMg : List Fd → Bool
  | a :: p :: q :: z :: _ => decide (a.b = 126) && (decide (q.b ≠ 0) && decide (z.b = ((((p.b.toNat ^^^ q.b.toNat) ^^^ 85 : Nat)) : Int)))
  | _ => false
/-- A Flag with too little behind it. -/
def unfin : List Fd → Bool
  | a :: r => decide (a.b = 126) && decide (r.length < 3)
  | [] => false
def mgOf : List Fd → Mg
  | _ :: p :: q :: z :: _ => ⟨p.b, q.b, z.tick⟩
  | _ => ⟨0, 0, 0⟩

/-- The messages of a line, how many bytes were bad, what is left. (The fuel: the bytes.) -/
def lnRead : Nat → List Fd → List Mg × Nat × List Fd
  | 0, l => ([], 0, l)
  | f + 1, l =>
    if l = [] ∨ unfin l = true then ([], 0, l)
    else if isMg l = true then (mgOf l :: (lnRead f (l.drop 4)).1, (lnRead f (l.drop 4)).2.1, (lnRead f (l.drop 4)).2.2)
    else ((lnRead f (l.drop 1)).1, (lnRead f (l.drop 1)).2.1 + 1, (lnRead f (l.drop 1)).2.2)

/-- What becomes of a message. -/
def exTake (c : Cfg) (t : Int) (r : Rdg) (m : Mg) : Rdg :=
  if (c.tasks.length : Int) ≤ m.task then { r with ct := { r.ct with unknown := r.ct.unknown + 1 } }
  else if (r.jobs.length : Int) = c.room then { r with ct := { r.ct with lost := r.ct.lost + 1 }, out := r.out ++ [⟨3, t, -1, m.task, m.tick + (c.tasks.map Tk.due).getD m.task.toNat 0⟩] }
  else { r with jobs := r.jobs ++ [⟨r.ct.jobs, m.task, m.tick + (c.tasks.map Tk.due).getD m.task.toNat 0, m.cost⟩], ct := { r.ct with jobs := r.ct.jobs + 1 } }
def addBad (r : Rdg) (n : Int) : Rdg := { r with ct := { r.ct with bad := r.ct.bad + n } }

theorem exTake_bad (c : Cfg) (t : Int) (r : Rdg) (m : Mg) (n : Int) : exTake c t (addBad r n) m = addBad (exTake c t r m) n := by
  unfold exTake addBad
  simp only
  split
  · rfl
  · split <;> rfl
theorem foldTake_bad (c : Cfg) (t : Int) (n : Int) : ∀ (ms : List Mg) (r : Rdg), ms.foldl (exTake c t) (addBad r n) = addBad (ms.foldl (exTake c t) r) n
  | [], _ => rfl
  | m :: ms, r => by rw [List.foldl_cons, exTake_bad, foldTake_bad c t n ms, List.foldl_cons]
theorem addBad_add (r : Rdg) (a b : Int) : addBad (addBad r a) b = addBad r (a + b) := by simp [addBad, Int.add_assoc]
theorem addBad_zero (r : Rdg) : addBad r 0 = r := by simp [addBad]

theorem exMsg_cases (n : Nat) (l : List Fd) :
    (l = [] ∨ unfin l = true) ∧ exMsg n l = .none ∨
    ¬ (l = [] ∨ unfin l = true) ∧ isMg l = true ∧ exMsg n l = (if (n : Int) ≤ (mgOf l).task then Msg.unknown else Msg.job (mgOf l).task (mgOf l).cost (mgOf l).tick) ∨
    ¬ (l = [] ∨ unfin l = true) ∧ isMg l = false ∧ exMsg n l = .bad := by
  match l with
  | [] => left; exact ⟨.inl rfl, rfl⟩
  | [a] =>
    by_cases h : a.b = 126
    · left; exact ⟨.inr (by simp [unfin, h]), by simp [exMsg, h]⟩
    · right; right; exact ⟨by simp [unfin, h], rfl, by simp [exMsg, h]⟩
  | [a, p] =>
    by_cases h : a.b = 126
    · left; exact ⟨.inr (by simp [unfin, h]), by simp [exMsg, h]⟩
    · right; right; exact ⟨by simp [unfin, h], rfl, by simp [exMsg, h]⟩
  | [a, p, q] =>
    by_cases h : a.b = 126
    · left; exact ⟨.inr (by simp [unfin, h]), by simp [exMsg, h]⟩
    · right; right; exact ⟨by simp [unfin, h], rfl, by simp [exMsg, h]⟩
  | a :: p :: q :: z :: r =>
    right
    by_cases h : a.b = 126
    · by_cases hm : q.b = 0 ∨ z.b ≠ ((((p.b.toNat ^^^ q.b.toNat) ^^^ 85 : Nat)) : Int)
      · right
        refine ⟨by simp [unfin], ?_, ?_⟩
        · simp only [isMg]
          rcases hm with hm | hm
          · simp [hm]
          · simp only [hm, decide_false, Bool.and_false]
        · simp only [exMsg, h, ne_eq, not_true, if_false]
          rw [if_pos hm]
      · left
        refine ⟨by simp [unfin], ?_, ?_⟩
        · simp only [not_or, ne_eq, Decidable.not_not] at hm
          simp only [isMg, h, hm.2]
          simp [hm.1]
        · simp only [exMsg, h, ne_eq, not_true, if_false, mgOf]
          rw [if_neg hm]
          rfl
    · right; exact ⟨by simp [unfin, h], by simp [isMg, h], by simp [exMsg, h]⟩

theorem exRead_two (c : Cfg) (t : Int) : ∀ (f : Nat) (l : List Fd) (r : Rdg), exRead c t f l r = ((lnRead f l).2.2, addBad ((lnRead f l).1.foldl (exTake c t) r) (lnRead f l).2.1)
  | 0, l, r => by simp [exRead, lnRead, addBad_zero]
  | f + 1, l, r => by
    rw [exRead, lnRead]
    rcases exMsg_cases c.tasks.length l with ⟨h1, h2⟩ | ⟨h1, h2, h3⟩ | ⟨h1, h2, h3⟩
    · rw [h2, if_pos h1]
      simp [addBad_zero]
    · rw [h3, if_neg h1, if_pos h2]
      by_cases hk : ((c.tasks.length : Nat) : Int) ≤ (mgOf l).task
      · simp only [if_pos hk]
        rw [exRead_two c t f, List.foldl_cons, exTake, if_pos hk]
      · simp only [if_neg hk]
        by_cases hr : (r.jobs.length : Int) = c.room
        · rw [if_pos hr, exRead_two c t f, List.foldl_cons, exTake, if_neg hk, if_pos hr]
        · rw [if_neg hr, exRead_two c t f, List.foldl_cons, exTake, if_neg hk, if_neg hr]
    · rw [h3, if_neg h1, if_neg (by simp [h2])]
      simp only
      rw [exRead_two c t f]
      have e : ({ r with ct := { r.ct with bad := r.ct.bad + 1 } } : Rdg) = addBad r 1 := rfl
      rw [e, foldTake_bad, addBad_add]
      congr 2
      simp; omega

theorem lnRead_drop : ∀ (f : Nat) (l : List Fd), ∃ k, (lnRead f l).2.2 = l.drop k ∧ k ≤ l.length ∧ 4 * (lnRead f l).1.length + (lnRead f l).2.1 = k
  | 0, l => ⟨0, by simp [lnRead]⟩
  | f + 1, l => by
    rw [lnRead]
    by_cases h1 : l = [] ∨ unfin l = true
    · rw [if_pos h1]; exact ⟨0, by simp⟩
    · rw [if_neg h1]
      by_cases h2 : isMg l = true
      · rw [if_pos h2]
        obtain ⟨k, hk, hl, hs⟩ := lnRead_drop f (l.drop 4)
        have h4 : 4 ≤ l.length := by
          match l, h2 with
          | _ :: _ :: _ :: _ :: _, _ => simp
        rw [List.length_drop] at hl
        exact ⟨k + 4, by rw [hk, List.drop_drop]; congr 1; omega, by omega, by simp; omega⟩
      · rw [if_neg h2]
        obtain ⟨k, hk, hl, hs⟩ := lnRead_drop f (l.drop 1)
        have h4 : 1 ≤ l.length := by
          cases l with
          | nil => simp at h1
          | cons _ _ => simp
        rw [List.length_drop] at hl
        exact ⟨k + 1, by rw [hk, List.drop_drop]; congr 1; omega, by omega, by simp only; omega⟩

/-- How many of a line's bytes were fed by the tick t, from its first one on. -/
def fedBy (t : Int) (l : List Fd) : Nat := (l.takeWhile fun f => decide (f.tick ≤ t)).length
/-- The ticks of a line go up. -/
def Ticks (l : List Fd) : Prop := l.Pairwise fun a b => a.tick ≤ b.tick

theorem fedBy_le (t : Int) (l : List Fd) : fedBy t l ≤ l.length := (List.takeWhile_prefix _).length_le
theorem fedBy_take (t : Int) (l : List Fd) : l.take (fedBy t l) = l.takeWhile fun f => decide (f.tick ≤ t) := (List.prefix_iff_eq_take.1 (List.takeWhile_prefix _)).symm
theorem fedBy_cons_le {t : Int} {a : Fd} {l : List Fd} (h : a.tick ≤ t) : fedBy t (a :: l) = fedBy t l + 1 := by simp [fedBy, List.takeWhile, h]
theorem fedBy_cons_gt {t : Int} {a : Fd} {l : List Fd} (h : ¬ a.tick ≤ t) : fedBy t (a :: l) = 0 := by simp [fedBy, List.takeWhile, h]
theorem filter_fed {t : Int} : ∀ {l : List Fd}, Ticks l → (l.filter fun f => decide (f.tick ≤ t)) = l.take (fedBy t l) ∧ (l.filter fun f => !decide (f.tick ≤ t)) = l.drop (fedBy t l)
  | [], _ => ⟨rfl, rfl⟩
  | a :: l, h => by
    obtain ⟨h1, h2⟩ := List.pairwise_cons.1 h
    obtain ⟨e1, e2⟩ := filter_fed (t := t) h2
    by_cases ha : a.tick ≤ t
    · rw [fedBy_cons_le ha, List.filter_cons_of_pos (by simpa using ha), List.filter_cons_of_neg (by simpa using ha), e1, e2]
      exact ⟨rfl, rfl⟩
    · rw [fedBy_cons_gt ha]
      refine ⟨?_, ?_⟩
      · rw [List.take_zero, List.filter_eq_nil_iff]
        intro b hb
        rcases List.mem_cons.1 hb with rfl | hb
        · simpa using ha
        · have := h1 b hb
          simp; omega
      · rw [List.drop_zero, List.filter_eq_self]
        intro b hb
        rcases List.mem_cons.1 hb with rfl | hb
        · simpa using ha
        · have := h1 b hb
          simp; omega

/-- A line's reading, in two goes. -/
theorem exLine_two (c : Cfg) (t : Int) (l : List Fd) (r : Rdg) (h : Ticks l) :
    exLine c t l r = (l.drop (fedBy t l - (lnRead l.length (l.take (fedBy t l))).2.2.length), addBad ((lnRead l.length (l.take (fedBy t l))).1.foldl (exTake c t) r) (lnRead l.length (l.take (fedBy t l))).2.1) := by
  obtain ⟨e1, e2⟩ := filter_fed (t := t) h
  unfold exLine
  simp only
  rw [e1, e2, exRead_two]
  obtain ⟨k, hk, hl, _⟩ := lnRead_drop l.length (l.take (fedBy t l))
  have hf := fedBy_le t l
  have hlen : (l.take (fedBy t l)).length = fedBy t l := by rw [List.length_take]; omega
  rw [hlen] at hl
  congr 1
  rw [hk, List.length_drop, hlen, show fedBy t l - (fedBy t l - k) = k from by omega]
  conv => rhs; rw [← List.take_append_drop (fedBy t l) l, List.drop_append, hlen]
  rw [show k - fedBy t l = 0 from by omega, List.drop_zero]

end Go.Proofs.Ythloffgebebijaa
