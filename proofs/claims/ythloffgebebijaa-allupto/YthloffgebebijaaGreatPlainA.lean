/- PlainA: the executive in plain numbers: container/heap in lists; the reading of a line in two goes; bytes of a line in memory; what stands between the calls; what a run counts; the order in which jobs are begun. No function of the program is named here. -/
import Derived.Test.YthloffgebebijaaGreatExecA
import Derived.Laws.Bits64
namespace Go.Proofs.YthloffgebebijaaGreat
open Go.RowKit

/-- b is not ahead of a. -/
def jle (a b : Jb) : Prop := jbBefore b a = false

theorem jbBefore_iff {a b : Jb} : jbBefore a b = true ↔ a.deadline < b.deadline ∨ (a.deadline = b.deadline ∧ a.number < b.number) := by
  simp [jbBefore]
theorem jle_iff {a b : Jb} : jle a b ↔ a.deadline < b.deadline ∨ (a.deadline = b.deadline ∧ a.number ≤ b.number) := by
  unfold jle
  rw [← Bool.not_eq_true, jbBefore_iff]
  omega
theorem jle_refl (a : Jb) : jle a a := by rw [jle_iff]; omega
theorem jle_trans {a b c : Jb} (h : jle a b) (k : jle b c) : jle a c := by rw [jle_iff] at *; omega
theorem jle_of_before {a b : Jb} (h : jbBefore a b = true) : jle a b := by rw [jbBefore_iff] at h; rw [jle_iff]; omega

/-- Two places are changed. -/
def swp (l : List Jb) (i j : Nat) : List Jb :=
  match l[i]?, l[j]? with
  | some a, some b => (l.set i b).set j a
  | _, _ => l
theorem swp_eq {l : List Jb} {i j : Nat} {a b : Jb} (hi : l[i]? = some a) (hj : l[j]? = some b) : swp l i j = (l.set i b).set j a := by simp only [swp, hi, hj]
theorem swp_length (l : List Jb) (i j : Nat) : (swp l i j).length = l.length := by
  unfold swp
  split <;> simp
theorem swp_get {l : List Jb} {i j : Nat} {a b : Jb} (hi : l[i]? = some a) (hj : l[j]? = some b) (k : Nat) : (swp l i j)[k]? = if k = j then some a else if k = i then some b else l[k]? := by
  have h1 := lt_of_get hi
  have h2 := lt_of_get hj
  rw [swp_eq hi hj, List.getElem?_set, List.length_set, List.getElem?_set]
  by_cases hkj : k = j
  · subst hkj; simp [h2]
  · rw [if_neg (fun h => hkj h.symm), if_neg hkj]
    by_cases hki : k = i
    · subst hki; simp [h1]
    · rw [if_neg (fun h => hki h.symm), if_neg hki]
theorem swp_perm (l : List Jb) (i j : Nat) : (swp l i j).Perm l := by
  unfold swp
  split
  · rename_i a b hi hj
    obtain ⟨h1, rfl⟩ := List.getElem?_eq_some_iff.1 hi
    obtain ⟨h2, rfl⟩ := List.getElem?_eq_some_iff.1 hj
    rw [List.perm_iff_count]
    intro x
    rw [List.count_set (by simpa using h2), List.count_set h1, List.getElem_set]
    have p1 : 0 < l.count l[i] := List.count_pos_iff.2 (List.getElem_mem _)
    have p2 : 0 < l.count l[j] := List.count_pos_iff.2 (List.getElem_mem _)
    by_cases hij : i = j
    · subst hij
      by_cases hx : l[i] = x
      · subst hx; simp
      · simp [hx]
    · by_cases hx : l[i] = x
      · by_cases hy : l[j] = x
        · subst hx; simp [hij, hy]
        · subst hx; simp [hij, hy]
      · by_cases hy : l[j] = x
        · subst hy; simp [hij, hx]; try omega
        · simp [hij, hx, hy]
  · exact List.Perm.refl _

/-- The places up to n: none is ahead of the one above it. -/
def Heapy (l : List Jb) (n : Nat) : Prop := ∀ k a b, 0 < k → k < n → l[(k - 1) / 2]? = some a → l[k]? = some b → jle a b
/-- The same but for the place j and the one above it. -/
def UpI (l : List Jb) (n j : Nat) : Prop :=
  (∀ k a b, 0 < k → k < n → k ≠ j → l[(k - 1) / 2]? = some a → l[k]? = some b → jle a b) ∧
  (∀ k a b, 0 < j → 0 < k → k < n → (k - 1) / 2 = j → l[(j - 1) / 2]? = some a → l[k]? = some b → jle a b)
/-- The same but for the place i and those below it. -/
def DownI (l : List Jb) (n i : Nat) : Prop :=
  (∀ k a b, 0 < k → k < n → (k - 1) / 2 ≠ i → l[(k - 1) / 2]? = some a → l[k]? = some b → jle a b) ∧
  (∀ k a b, 0 < i → 0 < k → k < n → (k - 1) / 2 = i → l[(i - 1) / 2]? = some a → l[k]? = some b → jle a b)

theorem heapy_take {l : List Jb} {n : Nat} (h : Heapy l n) : Heapy (l.take n) n := fun k a b h0 hk ha hb => by
  rw [List.getElem?_take, if_pos (by omega)] at ha hb
  exact h k a b h0 hk ha hb

theorem upI_new {l : List Jb} {x : Jb} (h : Heapy l l.length) : UpI (l ++ [x]) (l.length + 1) l.length := by
  refine ⟨fun k a b h0 hk hne ha hb => ?_, fun k a b hj h0 hk he => by omega⟩
  rw [List.getElem?_append_left (by omega)] at ha hb
  exact h k a b h0 (by omega) ha hb
theorem upI_stop {l : List Jb} {n j : Nat} {a b : Jb} (h : UpI l n j) (ha : l[(j - 1) / 2]? = some a) (hb : l[j]? = some b) (hn : jbBefore b a = false) : Heapy l n := by
  intro k x y h0 hk hx hy
  by_cases he : k = j
  · subst he
    rw [ha] at hx; rw [hb] at hy
    cases hx; cases hy
    exact hn
  · exact h.1 k x y h0 hk he hx hy
theorem upI_top {l : List Jb} {n : Nat} (h : UpI l n 0) : Heapy l n := fun k x y h0 hk hx hy => h.1 k x y h0 hk (by omega) hx hy
theorem upI_step {l : List Jb} {n j : Nat} {a b : Jb} (h : UpI l n j) (h0 : 0 < j) (hjn : j < n) (ha : l[(j - 1) / 2]? = some a) (hb : l[j]? = some b) (hn : jbBefore b a = true) : UpI (swp l ((j - 1) / 2) j) n ((j - 1) / 2) := by
  have hba := jle_of_before hn
  refine ⟨fun k x y hk0 hk hne hx hy => ?_, fun k x y hi0 hk0 hk he hx hy => ?_⟩
  · rw [swp_get ha hb] at hx hy
    by_cases hkj : k = j
    · subst hkj
      rw [if_pos rfl] at hy
      rw [if_neg (by omega), if_pos rfl] at hx
      cases hx; cases hy
      exact hba
    · rw [if_neg hkj, if_neg hne] at hy
      by_cases hp : (k - 1) / 2 = j
      · rw [if_pos hp] at hx
        cases hx
        exact h.2 k _ _ h0 hk0 hk hp ha hy
      · rw [if_neg hp] at hx
        by_cases hp2 : (k - 1) / 2 = (j - 1) / 2
        · rw [if_pos hp2] at hx
          cases hx
          exact jle_trans hba (h.1 k _ _ hk0 hk hkj (by rw [hp2]; exact ha) hy)
        · rw [if_neg hp2] at hx
          exact h.1 k _ _ hk0 hk hkj hx hy
  · rw [swp_get ha hb] at hx hy
    rw [if_neg (by omega), if_neg (by omega)] at hx
    have hxa : jle x a := h.1 ((j - 1) / 2) x a hi0 (by omega) (by omega) hx ha
    by_cases hkj : k = j
    · rw [if_pos hkj] at hy
      cases hy
      exact hxa
    · rw [if_neg hkj, if_neg (by omega)] at hy
      exact jle_trans hxa (h.1 k a y hk0 hk hkj (by rw [he]; exact ha) hy)

theorem downI_new {l : List Jb} {n : Nat} (h : ∀ k a b, 2 < k → k < n → l[(k - 1) / 2]? = some a → l[k]? = some b → jle a b) : DownI l n 0 :=
  ⟨fun k a b h0 hk hne ha hb => h k a b (by omega) hk ha hb, fun k a b hi => by omega⟩
theorem downI_stop {l : List Jb} {n i : Nat} (h : DownI l n i) (hs : ∀ k a b, 0 < k → k < n → (k - 1) / 2 = i → l[i]? = some a → l[k]? = some b → jle a b) : Heapy l n := by
  intro k x y h0 hk hx hy
  by_cases he : (k - 1) / 2 = i
  · exact hs k x y h0 hk he (by rw [← he]; exact hx) hy
  · exact h.1 k x y h0 hk he hx hy
/-- One step down: m is a place below i, none below i is ahead of it, and it is ahead of i. -/
theorem downI_step {l : List Jb} {n i m : Nat} {a b : Jb} (h : DownI l n i) (hm0 : 0 < m) (hmn : m < n) (hmi : (m - 1) / 2 = i) (ha : l[i]? = some a) (hb : l[m]? = some b) (hn : jbBefore b a = true)
    (hs : ∀ k y, 0 < k → k < n → (k - 1) / 2 = i → l[k]? = some y → jle b y) : DownI (swp l i m) n m := by
  have hba := jle_of_before hn
  refine ⟨fun k x y hk0 hk hne hx hy => ?_, fun k x y hi0 hk0 hk he hx hy => ?_⟩
  · rw [swp_get ha hb] at hx hy
    rw [if_neg hne] at hx
    by_cases hkm : k = m
    · subst hkm
      rw [if_pos rfl] at hy
      rw [if_pos hmi] at hx
      cases hx; cases hy
      exact hba
    · rw [if_neg hkm] at hy
      by_cases hki : k = i
      · subst hki
        rw [if_pos rfl] at hy
        rw [if_neg (by omega)] at hx
        cases hy
        exact h.2 m x b hk0 hm0 hmn hmi hx hb
      · rw [if_neg hki] at hy
        by_cases hp : (k - 1) / 2 = i
        · rw [if_pos hp] at hx
          cases hx
          exact hs k y hk0 hk hp hy
        · rw [if_neg hp] at hx
          exact h.1 k x y hk0 hk hp hx hy
  · rw [swp_get ha hb] at hx hy
    rw [if_neg (by omega), if_pos hmi] at hx
    cases hx
    rw [if_neg (by omega), if_neg (by omega)] at hy
    exact h.1 k b y hk0 hk (by omega) (by rw [he]; exact hb) hy

/-- The first of a heap. -/
theorem heapy_first {l : List Jb} {n : Nat} {a : Jb} (h : Heapy l n) (ha : l[0]? = some a) (hn : n ≤ l.length) : ∀ k b, k < n → l[k]? = some b → jle a b := by
  intro k
  induction k using Nat.strongRecOn with
  | ind k ih =>
    intro b hk hb
    by_cases h0 : k = 0
    · subst h0
      rw [ha] at hb; cases hb
      exact jle_refl _
    · obtain ⟨x, hx⟩ := get_of_lt (l := l) (k := (k - 1) / 2) (by omega)
      exact jle_trans (ih ((k - 1) / 2) (by omega) x (by omega) hx) (h k x b (by omega) hk hx hb)

/-- What the reference goes by: the place of the first is that of one that none is ahead of. -/
theorem firstFrom_spec (js : List Jb) : ∀ (f i k : Nat), i + f = js.length → k < js.length → (∀ (q : Nat) b a, q < i → js[q]? = some b → js[k]? = some a → jle a b) →
    firstFrom js f i k < js.length ∧ ∀ (q : Nat) b a, js[q]? = some b → js[firstFrom js f i k]? = some a → jle a b := by
  intro f
  induction f with
  | zero => intro i k hi hk h; exact ⟨hk, fun q b a hq ha => h q b a (by have := lt_of_get hq; omega) hq ha⟩
  | succ f ih =>
    intro i k hi hk h
    obtain ⟨x, hx⟩ := get_of_lt (l := js) (k := i) (by omega)
    obtain ⟨y, hy⟩ := get_of_lt (l := js) (k := k) hk
    rw [firstFrom]
    simp only [hx, hy]
    refine ih (i + 1) _ (by omega) (by split <;> omega) ?_
    intro q b a hq hb ha
    split at ha
    · rename_i hc
      rw [hx] at ha; cases ha
      by_cases hqi : q = i
      · subst hqi; rw [hx] at hb; cases hb; exact jle_refl _
      · exact jle_trans (jle_of_before hc) (h q b y (by omega) hb hy)
    · rename_i hc
      rw [hy] at ha; cases ha
      by_cases hqi : q = i
      · subst hqi; rw [hx] at hb; cases hb; exact (by simpa using hc : jbBefore x y = false)
      · exact h q b y (by omega) hb hy
theorem firstJ_spec {js : List Jb} (h : 0 < js.length) : firstJ js < js.length ∧ ∀ (q : Nat) b a, js[q]? = some b → js[firstJ js]? = some a → jle a b :=
  firstFrom_spec js _ 1 0 (by omega) h fun q b a hq hb ha => by
    obtain rfl : q = 0 := by omega
    rw [hb] at ha; cases ha; exact jle_refl _

/-- Two lists of the same jobs, no two with one number: the first of the one is the first of the other, and behind it the same jobs are left. -/
theorem first_same {js hs rest : List Jb} {j : Jb} (hp : hs.Perm js) (hn : (js.map Jb.number).Nodup) (ht : (j :: rest).Perm hs) (hm : ∀ b ∈ hs, jle j b) :
    js[firstJ js]? = some j ∧ rest.Perm (js.eraseIdx (firstJ js)) := by
  have hpj := ht.trans hp
  have hl : 0 < js.length := by have := hpj.length_eq; simp at this; omega
  obtain ⟨h1, h2⟩ := firstJ_spec hl
  obtain ⟨a, ha⟩ := get_of_lt h1
  have haj : a = j := by
    have ma : a ∈ js := List.mem_of_getElem? ha
    have mj : j ∈ js := hpj.mem_iff.1 (by simp)
    obtain ⟨q, hq⟩ := List.getElem?_of_mem mj
    have e1 := h2 q j a hq ha
    have e2 := hm a (hp.mem_iff.2 ma)
    rw [jle_iff] at e1 e2
    have en : a.number = j.number := by omega
    have hq' : (js.map Jb.number)[q]? = some j.number := by simp [hq]
    have hf' : (js.map Jb.number)[firstJ js]? = some j.number := by simp [ha, en]
    have hpw := List.pairwise_iff_getElem.1 (List.nodup_iff_pairwise_ne.1 hn)
    obtain ⟨lq, eq⟩ := List.getElem?_eq_some_iff.1 hq'
    obtain ⟨lf, ef⟩ := List.getElem?_eq_some_iff.1 hf'
    rcases Nat.lt_trichotomy q (firstJ js) with hh | hh | hh
    · exact absurd (eq.trans ef.symm) (hpw _ _ lq lf hh)
    · rw [hh, ha] at hq; cases hq; rfl
    · exact absurd (ef.trans eq.symm) (hpw _ _ lf lq hh)
  subst haj
  refine ⟨ha, ?_⟩
  have e : js.Perm (a :: js.eraseIdx (firstJ js)) := by
    obtain ⟨hlt, rfl⟩ := List.getElem?_eq_some_iff.1 ha
    rw [List.eraseIdx_eq_take_drop_succ]
    refine List.Perm.trans ?_ List.perm_middle
    rw [← List.drop_eq_getElem_cons hlt, List.take_append_drop]
  exact (hpj.trans e).cons_inv

end Go.Proofs.YthloffgebebijaaGreat

namespace Go.Proofs.YthloffgebebijaaGreat
open Go.RowKit

/-- A message: its task, its cost, its last byte's tick. -/
structure Mg where
  task : Int
  cost : Int
  tick : Int

/-- Four bytes that are a message. -/
def isMg : List Fd → Bool
  | a :: p :: q :: z :: _ => decide (a.b = 126) && (decide (q.b ≠ 0) && decide (z.b = ((((p.b.toNat ^^^ q.b.toNat) ^^^ 85 : Nat)) : Int)))
  | _ => false
/-- A Flag with too little behind it. -/
def unfin : List Fd → Bool
  | a :: r => decide (a.b = 126) && decide (r.length < 3)
  | [] => false
def mgOf : List Fd → Mg
  | _ :: p :: q :: z :: _ => ⟨p.b, q.b, z.tick⟩
  | _ => ⟨0, 0, 0⟩

/-- The messages of a line, how many bytes were bad, what is left. (The fuel: the bytes.) -/
def lnRead : Nat → List Fd → List Mg × Nat × List Fd
  | 0, l => ([], 0, l)
  | f + 1, l =>
    if l = [] ∨ unfin l = true then ([], 0, l)
    else if isMg l = true then (mgOf l :: (lnRead f (l.drop 4)).1, (lnRead f (l.drop 4)).2.1, (lnRead f (l.drop 4)).2.2)
    else ((lnRead f (l.drop 1)).1, (lnRead f (l.drop 1)).2.1 + 1, (lnRead f (l.drop 1)).2.2)

/-- What becomes of a message. -/
def exTake (c : Cfg) (t : Int) (r : Rdg) (m : Mg) : Rdg :=
  if (c.tasks.length : Int) ≤ m.task then { r with ct := { r.ct with unknown := r.ct.unknown + 1 } }
  else if (r.jobs.length : Int) = c.room then { r with ct := { r.ct with lost := r.ct.lost + 1 }, out := r.out ++ [⟨3, t, -1, m.task, m.tick + (c.tasks.map Tk.due).getD m.task.toNat 0⟩] }
  else { r with jobs := r.jobs ++ [⟨r.ct.jobs, m.task, m.tick + (c.tasks.map Tk.due).getD m.task.toNat 0, m.cost⟩], ct := { r.ct with jobs := r.ct.jobs + 1 } }
def addBad (r : Rdg) (n : Int) : Rdg := { r with ct := { r.ct with bad := r.ct.bad + n } }

theorem exTake_bad (c : Cfg) (t : Int) (r : Rdg) (m : Mg) (n : Int) : exTake c t (addBad r n) m = addBad (exTake c t r m) n := by
  unfold exTake addBad
  simp only
  split
  · rfl
  · split <;> rfl
theorem foldTake_bad (c : Cfg) (t : Int) (n : Int) : ∀ (ms : List Mg) (r : Rdg), ms.foldl (exTake c t) (addBad r n) = addBad (ms.foldl (exTake c t) r) n
  | [], _ => rfl
  | m :: ms, r => by rw [List.foldl_cons, exTake_bad, foldTake_bad c t n ms, List.foldl_cons]
theorem addBad_add (r : Rdg) (a b : Int) : addBad (addBad r a) b = addBad r (a + b) := by simp [addBad, Int.add_assoc]
theorem addBad_zero (r : Rdg) : addBad r 0 = r := by simp [addBad]

theorem exMsg_cases (n : Nat) (l : List Fd) :
    (l = [] ∨ unfin l = true) ∧ exMsg n l = none ∨
    ¬ (l = [] ∨ unfin l = true) ∧ isMg l = true ∧ exMsg n l = (if (n : Int) ≤ (mgOf l).task then some (some none) else some (some (some ((mgOf l).task, (mgOf l).cost, (mgOf l).tick)))) ∨
    ¬ (l = [] ∨ unfin l = true) ∧ isMg l = false ∧ exMsg n l = some none := by
  match l with
  | [] => left; exact ⟨.inl rfl, rfl⟩
  | [a] =>
    by_cases h : a.b = 126
    · left; exact ⟨.inr (by simp [unfin, h]), by simp [exMsg, h]⟩
    · right; right; exact ⟨by simp [unfin, h], rfl, by simp [exMsg, h]⟩
  | [a, p] =>
    by_cases h : a.b = 126
    · left; exact ⟨.inr (by simp [unfin, h]), by simp [exMsg, h]⟩
    · right; right; exact ⟨by simp [unfin, h], rfl, by simp [exMsg, h]⟩
  | [a, p, q] =>
    by_cases h : a.b = 126
    · left; exact ⟨.inr (by simp [unfin, h]), by simp [exMsg, h]⟩
    · right; right; exact ⟨by simp [unfin, h], rfl, by simp [exMsg, h]⟩
  | a :: p :: q :: z :: r =>
    right
    by_cases h : a.b = 126
    · by_cases hm : q.b = 0 ∨ z.b ≠ ((((p.b.toNat ^^^ q.b.toNat) ^^^ 85 : Nat)) : Int)
      · right
        refine ⟨by simp [unfin], ?_, ?_⟩
        · simp only [isMg]
          rcases hm with hm | hm
          · simp [hm]
          · simp only [hm, decide_false, Bool.and_false]
        · simp only [exMsg, h, ne_eq, not_true, if_false]
          rw [if_pos hm]
      · left
        refine ⟨by simp [unfin], ?_, ?_⟩
        · simp only [not_or, ne_eq, Decidable.not_not] at hm
          simp only [isMg, h, hm.2]
          simp [hm.1]
        · simp only [exMsg, h, ne_eq, not_true, if_false, mgOf]
          rw [if_neg hm]
          rfl
    · right; exact ⟨by simp [unfin, h], by simp [isMg, h], by simp [exMsg, h]⟩

theorem exRead_two (c : Cfg) (t : Int) : ∀ (f : Nat) (l : List Fd) (r : Rdg), exRead c t f l r = ((lnRead f l).2.2, addBad ((lnRead f l).1.foldl (exTake c t) r) (lnRead f l).2.1)
  | 0, l, r => by simp [exRead, lnRead, addBad_zero]
  | f + 1, l, r => by
    rw [exRead, lnRead]
    rcases exMsg_cases c.tasks.length l with ⟨h1, h2⟩ | ⟨h1, h2, h3⟩ | ⟨h1, h2, h3⟩
    · rw [h2, if_pos h1]
      simp [addBad_zero]
    · rw [h3, if_neg h1, if_pos h2]
      by_cases hk : ((c.tasks.length : Nat) : Int) ≤ (mgOf l).task
      · simp only [if_pos hk]
        rw [exRead_two c t f, List.foldl_cons, exTake, if_pos hk]
      · simp only [if_neg hk]
        by_cases hr : (r.jobs.length : Int) = c.room
        · rw [if_pos hr, exRead_two c t f, List.foldl_cons, exTake, if_neg hk, if_pos hr]
        · rw [if_neg hr, exRead_two c t f, List.foldl_cons, exTake, if_neg hk, if_neg hr]
    · rw [h3, if_neg h1, if_neg (by simp [h2])]
      simp only
      rw [exRead_two c t f]
      have e : ({ r with ct := { r.ct with bad := r.ct.bad + 1 } } : Rdg) = addBad r 1 := rfl
      rw [e, foldTake_bad, addBad_add]
      congr 2
      simp; omega

theorem lnRead_drop : ∀ (f : Nat) (l : List Fd), ∃ k, (lnRead f l).2.2 = l.drop k ∧ k ≤ l.length ∧ 4 * (lnRead f l).1.length + (lnRead f l).2.1 = k
  | 0, l => ⟨0, by simp [lnRead]⟩
  | f + 1, l => by
    rw [lnRead]
    by_cases h1 : l = [] ∨ unfin l = true
    · rw [if_pos h1]; exact ⟨0, by simp⟩
    · rw [if_neg h1]
      by_cases h2 : isMg l = true
      · rw [if_pos h2]
        obtain ⟨k, hk, hl, hs⟩ := lnRead_drop f (l.drop 4)
        have h4 : 4 ≤ l.length := by
          match l, h2 with
          | _ :: _ :: _ :: _ :: _, _ => simp
        rw [List.length_drop] at hl
        exact ⟨k + 4, by rw [hk, List.drop_drop]; congr 1; omega, by omega, by simp; omega⟩
      · rw [if_neg h2]
        obtain ⟨k, hk, hl, hs⟩ := lnRead_drop f (l.drop 1)
        have h4 : 1 ≤ l.length := by
          cases l with
          | nil => simp at h1
          | cons _ _ => simp
        rw [List.length_drop] at hl
        exact ⟨k + 1, by rw [hk, List.drop_drop]; congr 1; omega, by omega, by simp only; omega⟩

/-- How many of a line's bytes were fed by the tick t, from its first one on. -/
def fedBy (t : Int) (l : List Fd) : Nat := (l.takeWhile fun f => decide (f.tick ≤ t)).length
/-- The ticks of a line go up. -/
def Ticks (l : List Fd) : Prop := l.Pairwise fun a b => a.tick ≤ b.tick

theorem fedBy_le (t : Int) (l : List Fd) : fedBy t l ≤ l.length := (List.takeWhile_prefix _).length_le
theorem fedBy_take (t : Int) (l : List Fd) : l.take (fedBy t l) = l.takeWhile fun f => decide (f.tick ≤ t) := (List.prefix_iff_eq_take.1 (List.takeWhile_prefix _)).symm
theorem fedBy_cons_le {t : Int} {a : Fd} {l : List Fd} (h : a.tick ≤ t) : fedBy t (a :: l) = fedBy t l + 1 := by simp [fedBy, List.takeWhile, h]
theorem fedBy_cons_gt {t : Int} {a : Fd} {l : List Fd} (h : ¬ a.tick ≤ t) : fedBy t (a :: l) = 0 := by simp [fedBy, List.takeWhile, h]
theorem filter_fed {t : Int} : ∀ {l : List Fd}, Ticks l → (l.filter fun f => decide (f.tick ≤ t)) = l.take (fedBy t l) ∧ (l.filter fun f => !decide (f.tick ≤ t)) = l.drop (fedBy t l)
  | [], _ => ⟨rfl, rfl⟩
  | a :: l, h => by
    obtain ⟨h1, h2⟩ := List.pairwise_cons.1 h
    obtain ⟨e1, e2⟩ := filter_fed (t := t) h2
    by_cases ha : a.tick ≤ t
    · rw [fedBy_cons_le ha, List.filter_cons_of_pos (by simpa using ha), List.filter_cons_of_neg (by simpa using ha), e1, e2]
      exact ⟨rfl, rfl⟩
    · rw [fedBy_cons_gt ha]
      refine ⟨?_, ?_⟩
      · rw [List.take_zero, List.filter_eq_nil_iff]
        intro b hb
        rcases List.mem_cons.1 hb with rfl | hb
        · simpa using ha
        · have := h1 b hb
          simp; omega
      · rw [List.drop_zero, List.filter_eq_self]
        intro b hb
        rcases List.mem_cons.1 hb with rfl | hb
        · simpa using ha
        · have := h1 b hb
          simp; omega

/-- A line's reading, in two goes. -/
theorem exLine_two (c : Cfg) (t : Int) (l : List Fd) (r : Rdg) (h : Ticks l) :
    exLine c t l r = (l.drop (fedBy t l - (lnRead l.length (l.take (fedBy t l))).2.2.length), addBad ((lnRead l.length (l.take (fedBy t l))).1.foldl (exTake c t) r) (lnRead l.length (l.take (fedBy t l))).2.1) := by
  obtain ⟨e1, e2⟩ := filter_fed (t := t) h
  unfold exLine
  simp only
  rw [e1, e2, exRead_two]
  obtain ⟨k, hk, hl, _⟩ := lnRead_drop l.length (l.take (fedBy t l))
  have hf := fedBy_le t l
  have hlen : (l.take (fedBy t l)).length = fedBy t l := by rw [List.length_take]; omega
  rw [hlen] at hl
  congr 1
  rw [hk, List.length_drop, hlen, show fedBy t l - (fedBy t l - k) = k from by omega]
  conv => rhs; rw [← List.take_append_drop (fedBy t l) l, List.drop_append, hlen]
  rw [show k - fedBy t l = 0 from by omega, List.drop_zero]

end Go.Proofs.YthloffgebebijaaGreat

namespace Go.Proofs.YthloffgebebijaaGreat
open Go.RowKit

theorem bits_xor_u8_nat (a b : Nat) (ha : a < 256) (hb : b < 256) : bits .xor .u8 (a : Int) (b : Int) = ((a ^^^ b : Nat) : Int) := by
  have hx : a ^^^ b < 2 ^ 8 := Nat.xor_lt_two_pow (by omega) (by omega)
  have h1 : (BitVec.ofInt 8 (a : Int)).toNat = a := by
    rw [BitVec.ofInt_natCast, BitVec.toNat_ofNat]; exact Nat.mod_eq_of_lt (by omega)
  have h2 : (BitVec.ofInt 8 (b : Int)).toNat = b := by
    rw [BitVec.ofInt_natCast, BitVec.toNat_ofNat]; exact Nat.mod_eq_of_lt (by omega)
  show IntKind.u8.wrap ((BitVec.ofInt 8 (a : Int) ^^^ BitVec.ofInt 8 (b : Int)).toNat : Int) = _
  rw [BitVec.toNat_xor, h1, h2]
  simp only [IntKind.wrap, IntKind.bits, IntKind.signed]
  simp
  omega
/-- The fourth byte of a message, as the program reckons it. -/
theorem xor3 {p q : Int} (hp : 0 ≤ p ∧ p < 256) (hq : 0 ≤ q ∧ q < 256) : bits .xor .u8 (bits .xor .u8 p q) 85 = ((((p.toNat ^^^ q.toNat) ^^^ 85 : Nat)) : Int) := by
  obtain ⟨a, rfl⟩ : ∃ a : Nat, p = a := ⟨p.toNat, by omega⟩
  obtain ⟨b, rfl⟩ : ∃ b : Nat, q = b := ⟨q.toNat, by omega⟩
  have hx : a ^^^ b < 2 ^ 8 := Nat.xor_lt_two_pow (by omega) (by omega)
  rw [bits_xor_u8_nat a b (by omega) (by omega)]
  exact bits_xor_u8_nat (a ^^^ b) 85 (by omega) (by omega)

structure FdIn (f : Fd) : Prop where
  b0 : 0 ≤ f.b
  b1 : f.b < 256
  t0 : 0 ≤ f.tick
  t1 : f.tick < 1000
def FdAt (w : World) (b o : Nat) (f : Fd) : Prop := w.cell? ⟨b, o, none⟩ = some (.int .u8 f.b) ∧ w.cell? ⟨b, o + 1, none⟩ = some (.int .i64 f.tick)
theorem FdAt.later {w w' : World} {B b o : Nat} {f : Fd} (h : FdAt w b o f) (hb : Below B w w') (hlt : b < B) : FdAt w' b o f :=
  ⟨(hb.cell (p := ⟨b, o, none⟩) hlt).trans h.1, (hb.cell (p := ⟨b, o + 1, none⟩) hlt).trans h.2⟩
/-- The value reads as the bytes of a line. -/
def FedsR (w : World) (B : Nat) (v : Value) (fs : List Fd) : Prop :=
  ∃ a cap, v = .slice a fs.length cap ∧ (fs = [] ∨ ∃ b o, a = some ⟨b, o, none⟩ ∧ b < B ∧ ∀ i f, fs[i]? = some f → FdAt w b (o + i * 2) f)
theorem FedsR.later {w w' : World} {B B' : Nat} {v : Value} {fs : List Fd} (h : FedsR w B v fs) (hb : Below B' w w') (hle : B ≤ B') : FedsR w' B v fs := by
  obtain ⟨a, cap, hv, h⟩ := h
  exact ⟨a, cap, hv, h.imp id fun ⟨b, o, ha, hlt, hc⟩ => ⟨b, o, ha, hlt, fun i f hi => (hc i f hi).later hb (by omega)⟩⟩

end Go.Proofs.YthloffgebebijaaGreat

namespace Go.Proofs.YthloffgebebijaaGreat
open Go.RowKit

theorem cfgNum {c : Cfg} (h : cfgOk c = true) : (1 ≤ c.lines ∧ c.lines ≤ 4) ∧ (1 ≤ c.room ∧ c.room ≤ 40) ∧ (1 ≤ c.poll ∧ c.poll ≤ 20) ∧ (0 ≤ c.idle ∧ c.idle ≤ 20) ∧ (0 ≤ c.sw ∧ c.sw ≤ 20) ∧ (1 ≤ c.tasks.length ∧ c.tasks.length ≤ 6) ∧ ∀ t ∈ c.tasks, 1 ≤ t.due ∧ t.due ≤ 400 := by
  simp only [cfgOk, tasksOk, Bool.and_eq_true, decide_eq_true_eq, List.all_eq_true] at h
  obtain ⟨h1, h2, h3, h4, h5, h6, h7⟩ := h
  refine ⟨h1, h2, h3, h4, h5, h6, fun t ht => ?_⟩
  have := h7 t ht
  simp only [taskOk, Bool.and_eq_true, decide_eq_true_eq] at this
  exact this.2.1

/-- The bounds of a message. -/
structure MgIn (m : Mg) : Prop where
  t0 : 0 ≤ m.task
  t1 : m.task < 256
  c0 : 1 ≤ m.cost
  c1 : m.cost ≤ 255
  k0 : 0 ≤ m.tick
  k1 : m.tick < 1000

theorem mgOf_in {l : List Fd} (hm : isMg l = true) (h : ∀ f ∈ l, FdIn f) : MgIn (mgOf l) := by
  match l, hm with
  | a :: p :: q :: z :: r, hm =>
    have hp := h p (by simp)
    have hq := h q (by simp)
    have hz := h z (by simp)
    simp only [isMg, Bool.and_eq_true, decide_eq_true_eq] at hm
    have q0 := hq.b0
    have q1 := hq.b1
    have hq0 : q.b ≠ 0 := hm.2.1
    exact ⟨hp.b0, hp.b1, show 1 ≤ q.b by omega, show q.b ≤ 255 by omega, hz.t0, hz.t1⟩
theorem lnRead_in : ∀ (f : Nat) (l : List Fd), (∀ x ∈ l, FdIn x) → ∀ m ∈ (lnRead f l).1, MgIn m
  | 0, l, _, m, hm => by simp [lnRead] at hm
  | f + 1, l, h, m, hm => by
    rw [lnRead] at hm
    by_cases h1 : l = [] ∨ unfin l = true
    · rw [if_pos h1] at hm; simp at hm
    · rw [if_neg h1] at hm
      by_cases h2 : isMg l = true
      · rw [if_pos h2] at hm
        rcases List.mem_cons.1 hm with rfl | hm
        · exact mgOf_in h2 h
        · exact lnRead_in f _ (fun x hx => h x (List.mem_of_mem_drop hx)) m hm
      · rw [if_neg h2] at hm
        exact lnRead_in f _ (fun x hx => h x (List.mem_of_mem_drop hx)) m hm

/-- What a reading keeps: the room, the numbers of the jobs, how many there were, how many bytes were read. -/
structure RdIn (c : Cfg) (M : Int) (r : Rdg) : Prop where
  nj : (r.jobs.length : Int) ≤ c.room
  nd : (r.jobs.map Jb.number).Nodup
  jb : ∀ j ∈ r.jobs, 0 ≤ j.number ∧ j.number < r.ct.jobs ∧ 1 ≤ j.cost ∧ j.cost ≤ 255
  dn : r.ct.jobs = r.ct.done + r.jobs.length
  d0 : 0 ≤ r.ct.done
  l0 : 0 ≤ r.ct.lost
  u0 : 0 ≤ r.ct.unknown
  b0 : 0 ≤ r.ct.bad
  tot : r.ct.bad + 4 * (r.ct.jobs + r.ct.lost + r.ct.unknown) = M

theorem exTake_in {c : Cfg} {M t : Int} {r : Rdg} {m : Mg} (h : RdIn c M r) (hm : MgIn m) : RdIn c (M + 4) (exTake c t r m) := by
  obtain ⟨h1, h2, h3, h4, h5, h6, h7, h8, h9⟩ := h
  unfold exTake
  split
  · exact ⟨h1, h2, h3, h4, h5, h6, by simp only; omega, h8, by simp only; omega⟩
  · split
    · exact ⟨h1, h2, h3, h4, h5, by simp only; omega, h7, h8, by simp only; omega⟩
    · have j0 : 0 ≤ r.ct.jobs := by omega
      refine ⟨by simp; omega, ?_, ?_, by simp; omega, h5, h6, h7, h8, by simp only; omega⟩
      · simp only [List.map_append, List.map_cons, List.map_nil]
        rw [List.nodup_append]
        refine ⟨h2, by simp, ?_⟩
        intro a ha b hb
        simp only [List.mem_cons, List.not_mem_nil, or_false] at hb
        obtain ⟨j, hj, rfl⟩ := List.mem_map.1 ha
        have := h3 j hj
        omega
      · intro j hj
        rcases List.mem_append.1 hj with hj | hj
        · have := h3 j hj
          simp only
          omega
        · simp only [List.mem_cons, List.not_mem_nil, or_false] at hj
          subst hj
          have c0 := hm.c0
          have c1 := hm.c1
          simp only
          omega
theorem addBad_in {c : Cfg} {M n : Int} {r : Rdg} (h : RdIn c M r) (hn : 0 ≤ n) : RdIn c (M + n) (addBad r n) := by
  obtain ⟨h1, h2, h3, h4, h5, h6, h7, h8, h9⟩ := h
  exact ⟨h1, h2, h3, h4, h5, h6, h7, by simp only [addBad]; omega, by simp only [addBad]; omega⟩
theorem foldTake_in {c : Cfg} {t : Int} : ∀ (ms : List Mg) {M : Int} {r : Rdg}, RdIn c M r → (∀ m ∈ ms, MgIn m) → RdIn c (M + 4 * ms.length) (ms.foldl (exTake c t) r)
  | [], _, _, h, _ => by simpa using h
  | m :: ms, M, r, h, hm => by
    have := foldTake_in (t := t) ms (exTake_in (t := t) h (hm m (by simp))) (fun x hx => hm x (by simp [hx]))
    rw [List.foldl_cons]
    rw [show M + 4 * ((m :: ms).length : Int) = M + 4 + 4 * (ms.length : Int) from by simp; omega]
    exact this

/-- What a reading leaves as it was. -/
theorem exTake_keep (c : Cfg) (t : Int) (r : Rdg) (m : Mg) : (exTake c t r m).ct.done = r.ct.done ∧ (exTake c t r m).ct.spilled = r.ct.spilled ∧ (exTake c t r m).out.length ≤ r.out.length + 1 := by
  unfold exTake
  split
  · exact ⟨rfl, rfl, by simp⟩
  · split
    · exact ⟨rfl, rfl, by simp⟩
    · exact ⟨rfl, rfl, by simp⟩
theorem foldTake_keep (c : Cfg) (t : Int) : ∀ (ms : List Mg) (r : Rdg), (ms.foldl (exTake c t) r).ct.done = r.ct.done ∧ (ms.foldl (exTake c t) r).ct.spilled = r.ct.spilled ∧ (ms.foldl (exTake c t) r).out.length ≤ r.out.length + ms.length
  | [], r => ⟨rfl, rfl, by simp⟩
  | m :: ms, r => by
    obtain ⟨a1, a2, a3⟩ := exTake_keep c t r m
    obtain ⟨b1, b2, b3⟩ := foldTake_keep c t ms (exTake c t r m)
    rw [List.foldl_cons]
    exact ⟨b1.trans a1, b2.trans a2, by simp; omega⟩

/-- A line that may be. -/
structure LnIn (F : Int) (l : List Fd) : Prop where
  len : l.length ≤ 32
  tk : Ticks l
  fd : ∀ f ∈ l, FdIn f ∧ f.tick ≤ F
theorem LnIn.drop {F : Int} {l : List Fd} (h : LnIn F l) (k : Nat) : LnIn F (l.drop k) :=
  ⟨by have := h.len; rw [List.length_drop]; omega, h.tk.sublist (List.drop_sublist k l), fun f hf => h.fd f (List.mem_of_mem_drop hf)⟩

theorem exLine_in {c : Cfg} {t F M : Int} {l : List Fd} {r : Rdg} (hl : LnIn F l) (h : RdIn c M r) :
    ∃ k, k ≤ l.length ∧ (exLine c t l r).1 = l.drop k ∧ RdIn c (M + k) (exLine c t l r).2 ∧ (exLine c t l r).2.ct.done = r.ct.done ∧ (exLine c t l r).2.ct.spilled = r.ct.spilled ∧ (exLine c t l r).2.out.length ≤ r.out.length + 8 := by
  rw [exLine_two c t l r hl.tk]
  obtain ⟨k, hk, hkl, hs⟩ := lnRead_drop l.length (l.take (fedBy t l))
  have hf := fedBy_le t l
  have hlen : (l.take (fedBy t l)).length = fedBy t l := by rw [List.length_take]; omega
  rw [hlen] at hkl
  have hin := lnRead_in l.length (l.take (fedBy t l)) (fun x hx => (hl.fd x (List.mem_of_mem_take hx)).1)
  refine ⟨k, by omega, ?_, ?_, ?_⟩
  · rw [hk, List.length_drop, hlen, show fedBy t l - (fedBy t l - k) = k from by omega]
  · have := addBad_in (foldTake_in (t := t) _ h hin) (n := ((lnRead l.length (l.take (fedBy t l))).2.1 : Int)) (by omega)
    rw [show M + (k : Int) = M + 4 * ((lnRead l.length (l.take (fedBy t l))).1.length : Int) + ((lnRead l.length (l.take (fedBy t l))).2.1 : Int) from by omega]
    exact this
  · obtain ⟨b1, b2, b3⟩ := foldTake_keep c t (lnRead l.length (l.take (fedBy t l))).1 r
    have := hl.len
    exact ⟨b1, b2, by simp only [addBad]; omega⟩

def held (ls : List (List Fd)) : Int := (ls.map fun l => (l.length : Int)).sum
theorem held_nil : held [] = 0 := rfl
theorem held_cons (l : List Fd) (ls : List (List Fd)) : held (l :: ls) = l.length + held ls := by simp [held]
theorem held_append (a b : List (List Fd)) : held (a ++ b) = held a + held b := by simp [held]
theorem held_nonneg : ∀ ls : List (List Fd), 0 ≤ held ls
  | [] => by simp [held]
  | l :: ls => by have := held_nonneg ls; rw [held_cons]; omega

theorem exLines_in {c : Cfg} {t F : Int} : ∀ (ls : List (List Fd)) {M : Int} {r : Rdg}, (∀ l ∈ ls, LnIn F l) → RdIn c M r →
    (exLines c t ls r).1.length = ls.length ∧ (∀ l ∈ (exLines c t ls r).1, LnIn F l) ∧ RdIn c (M + held ls - held (exLines c t ls r).1) (exLines c t ls r).2 ∧ (exLines c t ls r).2.ct.done = r.ct.done ∧ (exLines c t ls r).2.ct.spilled = r.ct.spilled ∧ (exLines c t ls r).2.out.length ≤ r.out.length + 8 * ls.length
  | [], M, r, _, h => ⟨rfl, by simp [exLines], by simpa [exLines, held] using h, rfl, rfl, by simp [exLines]⟩
  | l :: ls, M, r, hl, h => by
    obtain ⟨k, hk, e1, h1, d1, s1, o1⟩ := exLine_in (t := t) (hl l (by simp)) h
    obtain ⟨a1, a2, a3, a4, a5, a6⟩ := exLines_in (t := t) ls (fun x hx => hl x (by simp [hx])) h1
    refine ⟨by simp [exLines, a1], ?_, ?_, by simp only [exLines]; exact a4.trans d1, by simp only [exLines]; exact a5.trans s1, by simp only [exLines, List.length_cons]; omega⟩
    · intro x hx
      simp only [exLines, List.mem_cons] at hx
      rcases hx with rfl | hx
      · rw [e1]; exact (hl l (by simp)).drop k
      · exact a2 x hx
    · simp only [exLines, held_cons]
      rw [e1, List.length_drop]
      rw [show M + ((l.length : Int) + held ls) - (((l.length - k : Nat) : Int) + held (exLines c t ls (exLine c t l r).2).1) = M + k + held ls - held (exLines c t ls (exLine c t l r).2).1 from by omega]
      exact a3

theorem exLines_snoc (c : Cfg) (t : Int) : ∀ (a : List (List Fd)) (l : List Fd) (r : Rdg), exLines c t (a ++ [l]) r = ((exLines c t a r).1 ++ [(exLine c t l (exLines c t a r).2).1], (exLine c t l (exLines c t a r).2).2)
  | [], l, r => by simp [exLines]
  | x :: a, l, r => by
    rw [List.cons_append, exLines, exLines_snoc c t a l]
    rfl

/-- What stands between the calls: N bytes were fed. -/
structure ExIn (x : Exs) (N : Int) : Prop where
  cfg : cfgOk x.cfg = true
  nl : (x.lines.length : Int) = x.cfg.lines
  ln : ∀ l ∈ x.lines, LnIn x.fed l
  rd : RdIn x.cfg (N - x.ct.spilled - held x.lines) ⟨x.jobs, x.ct, []⟩
  ck0 : 0 ≤ x.clock
  ck1 : x.clock ≤ 3294
  fe0 : 0 ≤ x.fed
  fe1 : x.fed < 1000
  sp0 : 0 ≤ x.ct.spilled

theorem exNew_in {c : Cfg} (h : cfgOk c = true) : ExIn (exNew c) 0 := by
  obtain ⟨⟨h1, h2⟩, ⟨h3, h4⟩, _⟩ := cfgNum h
  have hh : held (exNew c).lines = 0 := by
    simp only [exNew, held, List.map_replicate, List.length_nil]
    generalize c.lines.toNat = n
    induction n with
    | zero => rfl
    | succ n ih => rw [List.replicate_succ, List.sum_cons, ih]; rfl
  refine ⟨h, by simp [exNew]; omega, ?_, ?_, Int.le_refl _, by simp [exNew], Int.le_refl _, by simp [exNew], Int.le_refl _⟩
  · intro l hl
    have := List.eq_of_mem_replicate hl
    subst this
    exact ⟨by simp, List.Pairwise.nil, by simp⟩
  · rw [hh]
    exact ⟨by simp [exNew]; omega, by simp [exNew], by simp [exNew], by simp [exNew], by simp [exNew], by simp [exNew], by simp [exNew], by simp [exNew], by simp [exNew]⟩

theorem firstJ_some {js : List Jb} (h : js ≠ []) : ∃ j, js[firstJ js]? = some j := get_of_lt (firstJ_spec (List.length_pos_iff.2 h)).1

theorem exRound_in {x : Exs} {N : Int} (h : ExIn x N) (hc : x.clock < 3000) : ExIn (exRound x).1 N ∧ x.clock < (exRound x).1.clock ∧ (exRound x).2.length ≤ 34 := by
  obtain ⟨⟨c1, c2⟩, ⟨c3, c4⟩, ⟨c5, c6⟩, ⟨c7, c8⟩, ⟨c9, c10⟩, _, _⟩ := cfgNum h.cfg
  obtain ⟨a1, a2, a3, a4, a5, a6⟩ := exLines_in (t := x.clock) x.lines h.ln h.rd
  have hck := h.ck0
  have hnl := h.nl
  simp only at a4 a5 a6
  generalize hp : exLines x.cfg x.clock x.lines ⟨x.jobs, x.ct, []⟩ = p at *
  have hol : p.2.out.length ≤ 32 := by simp at a6; omega
  have hrd : RdIn x.cfg (N - p.2.ct.spilled - held p.1) p.2 := by
    rw [a5, show N - x.ct.spilled - held p.1 = N - x.ct.spilled - held x.lines + held x.lines - held p.1 from by omega]
    exact a3
  cases hj : p.2.jobs[firstJ p.2.jobs]? with
  | none =>
    have e : exRound x = ({ x with lines := p.1, jobs := p.2.jobs, ct := p.2.ct, clock := x.clock + x.cfg.poll + x.cfg.idle }, p.2.out) := by
      unfold exRound
      simp only [hp, hj]
    rw [e]
    refine ⟨⟨h.cfg, by simp only; omega, a2, ?_, by simp only; omega, by simp only; omega, h.fe0, h.fe1, by simp only; rw [a5]; exact h.sp0⟩, by simp only; omega, by simp only; omega⟩
    exact ⟨hrd.nj, hrd.nd, hrd.jb, hrd.dn, hrd.d0, hrd.l0, hrd.u0, hrd.b0, hrd.tot⟩
  | some j =>
    have e : exRound x = ({ x with lines := p.1, jobs := p.2.jobs.eraseIdx (firstJ p.2.jobs), ct := { p.2.ct with done := p.2.ct.done + 1 }, clock := x.clock + x.cfg.poll + x.cfg.sw + j.cost }, p.2.out ++ [⟨1, x.clock + x.cfg.poll, j.number, j.task, j.deadline⟩, ⟨2, x.clock + x.cfg.poll + x.cfg.sw + j.cost, j.number, j.task, j.deadline⟩]) := by
      unfold exRound
      simp only [hp, hj]
    rw [e]
    obtain ⟨_, _, j0, j1⟩ := hrd.jb j (List.mem_of_getElem? hj)
    have hlt := lt_of_get hj
    have hle : (p.2.jobs.eraseIdx (firstJ p.2.jobs)).length = p.2.jobs.length - 1 := by rw [List.length_eraseIdx]; simp [hlt]
    have hnj := hrd.nj
    have hdn := hrd.dn
    refine ⟨⟨h.cfg, by simp only; omega, a2, ?_, by simp only; omega, by simp only; omega, h.fe0, h.fe1, by simp only; rw [a5]; exact h.sp0⟩, by simp only; omega, by simp; omega⟩
    refine ⟨by simp only; omega, ?_, fun q hq => hrd.jb q (List.mem_of_mem_eraseIdx hq), by simp only; omega, by have := hrd.d0; simp only; omega, hrd.l0, hrd.u0, hrd.b0, hrd.tot⟩
    exact hrd.nd.sublist ((List.eraseIdx_sublist _ _).map _)

theorem exRun_in (u : Int) : ∀ (f : Nat) {x : Exs} {N : Int}, ExIn x N → ExIn (exRun u f x).1 N
  | 0, _, _, h => h
  | f + 1, x, N, h => by
    unfold exRun
    split
    · rename_i hc
      exact exRun_in u f (exRound_in h hc.2).1
    · exact h

theorem held_set : ∀ (ls : List (List Fd)) (i : Nat) (l : List Fd), i < ls.length → held (ls.set i l) = held ls - (ls.getD i []).length + l.length
  | [], _, _, h => by simp at h
  | x :: ls, 0, l, _ => by simp [held_cons]; omega
  | x :: ls, i + 1, l, h => by
    have := held_set ls i l (by simpa using h)
    simp only [List.set_cons_succ, held_cons, this]
    simp
    omega

theorem lineFeed_in {t F : Int} : ∀ (bs : List Int) {l : List Fd} {s : Int}, LnIn F l → F ≤ t → 0 ≤ t → t < 1000 → (∀ b ∈ bs, 0 ≤ b ∧ b < 256) →
    LnIn t (bs.foldl (lineAdd t) (l, s)).1 ∧ s ≤ (bs.foldl (lineAdd t) (l, s)).2 ∧ (bs.foldl (lineAdd t) (l, s)).2 + ((bs.foldl (lineAdd t) (l, s)).1.length : Int) = s + l.length + bs.length
  | [], l, s, h, hF, _, _, _ => ⟨⟨h.len, h.tk, fun f hf => ⟨(h.fd f hf).1, by have := (h.fd f hf).2; omega⟩⟩, by simp, by simp⟩
  | b :: bs, l, s, h, hF, h0, h1, hb => by
    rw [List.foldl_cons]
    have hb0 := hb b (by simp)
    by_cases hl : l.length < 32
    · rw [lineAdd, if_pos hl]
      simp only
      have hln : LnIn t (l ++ [(⟨b, t⟩ : Fd)]) := by
        refine ⟨by simp; omega, ?_, ?_⟩
        · refine List.pairwise_append.2 ⟨h.tk, by simp, ?_⟩
          intro a ha c hc
          simp only [List.mem_cons, List.not_mem_nil, or_false] at hc
          subst hc
          have := (h.fd a ha).2
          simp only
          omega
        · intro f hf
          rcases List.mem_append.1 hf with hf | hf
          · exact ⟨(h.fd f hf).1, by have := (h.fd f hf).2; omega⟩
          · simp only [List.mem_cons, List.not_mem_nil, or_false] at hf
            subst hf
            exact ⟨⟨hb0.1, hb0.2, h0, h1⟩, Int.le_refl _⟩
      obtain ⟨p1, p2, p3⟩ := lineFeed_in bs (s := s) hln (Int.le_refl t) h0 h1 (fun x hx => hb x (by simp [hx]))
      refine ⟨p1, p2, ?_⟩
      rw [p3]
      simp
      omega
    · rw [lineAdd, if_neg hl]
      simp only
      obtain ⟨p1, p2, p3⟩ := lineFeed_in bs (s := s + 1) h hF h0 h1 (fun x hx => hb x (by simp [hx]))
      refine ⟨p1, by omega, ?_⟩
      rw [p3]
      simp
      omega

theorem exFeed_in {x : Exs} {N line t : Int} {bs : List Int} (h : ExIn x N) (hb : ∀ b ∈ bs, 0 ≤ b ∧ b < 256) : ExIn (exFeed x line t bs).1 (if (exFeed x line t bs).2 = 0 then N + bs.length else N) := by
  unfold exFeed
  split
  · rename_i h1
    split
    · simpa using h
    · rename_i h2
      have hck := h.ck0
      have hfe := h.fe0
      have hnl := h.nl
      simp only
      rw [if_pos trivial]
      have hi : line.toNat < x.lines.length := by omega
      obtain ⟨l, hl⟩ := get_of_lt hi
      have hgd : x.lines.getD line.toNat [] = l := by rw [List.getD_eq_getElem?_getD, hl]; rfl
      obtain ⟨p1, p2, p3⟩ := lineFeed_in (t := t) bs (s := 0) (h.ln l (List.mem_of_getElem? hl)) (by omega) (by omega) (by omega) hb
      have hs := held_set x.lines line.toNat (lineFeed t l bs).1 hi
      rw [hgd] at hs ⊢
      have hlf : lineFeed t l bs = bs.foldl (lineAdd t) (l, 0) := rfl
      rw [← hlf] at p1 p2 p3
      have hsp := h.sp0
      refine ⟨h.cfg, by simp only [List.length_set]; exact hnl, ?_, ?_, hck, h.ck1, by simp only; omega, by simp only; omega, by simp only; omega⟩
      · intro y hy
        simp only at hy
        rcases List.mem_or_eq_of_mem_set hy with hy | rfl
        · have := h.ln y hy
          exact ⟨this.len, this.tk, fun f hf => ⟨(this.fd f hf).1, by have := (this.fd f hf).2; simp only; omega⟩⟩
        · exact p1
      · have r := h.rd
        refine ⟨r.nj, r.nd, r.jb, r.dn, r.d0, r.l0, r.u0, r.b0, ?_⟩
        have := r.tot
        simp only at this ⊢
        rw [hs]
        omega
  · simpa using h

end Go.Proofs.YthloffgebebijaaGreat

namespace Go.Proofs.YthloffgebebijaaGreat
open Go.RowKit

/-- How many events of a kind there are. -/
def cnt (k : Int) (es : List Ev) : Int := (es.countP fun e => decide (e.kind = k) : Nat)
theorem cnt_append (k : Int) (a b : List Ev) : cnt k (a ++ b) = cnt k a + cnt k b := by simp [cnt]
theorem cnt_nil (k : Int) : cnt k [] = 0 := rfl
theorem cnt_one (k : Int) (e : Ev) : cnt k [e] = if e.kind = k then 1 else 0 := by
  unfold cnt
  by_cases h : e.kind = k <;> simp [h]

theorem exTake_cnt (c : Cfg) (t : Int) (r : Rdg) (m : Mg) : cnt 2 (exTake c t r m).out = cnt 2 r.out ∧ cnt 3 (exTake c t r m).out - (exTake c t r m).ct.lost = cnt 3 r.out - r.ct.lost := by
  unfold exTake
  split
  · exact ⟨rfl, rfl⟩
  · split
    · refine ⟨?_, ?_⟩
      · simp [cnt]
      · simp only [cnt_append]
        have : cnt 3 [(⟨3, t, -1, m.task, m.tick + (c.tasks.map Tk.due).getD m.task.toNat 0⟩ : Ev)] = 1 := by simp [cnt]
        omega
    · exact ⟨rfl, rfl⟩
theorem foldTake_cnt (c : Cfg) (t : Int) : ∀ (ms : List Mg) (r : Rdg), cnt 2 (ms.foldl (exTake c t) r).out = cnt 2 r.out ∧ cnt 3 (ms.foldl (exTake c t) r).out - (ms.foldl (exTake c t) r).ct.lost = cnt 3 r.out - r.ct.lost
  | [], _ => ⟨rfl, rfl⟩
  | m :: ms, r => by
    obtain ⟨a1, a2⟩ := exTake_cnt c t r m
    obtain ⟨b1, b2⟩ := foldTake_cnt c t ms (exTake c t r m)
    rw [List.foldl_cons]
    exact ⟨b1.trans a1, b2.trans a2⟩
theorem exLine_cnt (c : Cfg) (t : Int) (l : List Fd) (r : Rdg) : cnt 2 (exLine c t l r).2.out = cnt 2 r.out ∧ cnt 3 (exLine c t l r).2.out - (exLine c t l r).2.ct.lost = cnt 3 r.out - r.ct.lost := by
  unfold exLine
  simp only
  rw [exRead_two]
  exact foldTake_cnt c t _ r
theorem exLines_cnt (c : Cfg) (t : Int) : ∀ (ls : List (List Fd)) (r : Rdg), cnt 2 (exLines c t ls r).2.out = cnt 2 r.out ∧ cnt 3 (exLines c t ls r).2.out - (exLines c t ls r).2.ct.lost = cnt 3 r.out - r.ct.lost
  | [], _ => ⟨rfl, rfl⟩
  | l :: ls, r => by
    obtain ⟨a1, a2⟩ := exLine_cnt c t l r
    obtain ⟨b1, b2⟩ := exLines_cnt c t ls (exLine c t l r).2
    simp only [exLines]
    exact ⟨b1.trans a1, b2.trans a2⟩

/-- The reading of a line ends at nothing, or at a Flag with too little behind it. -/
theorem lnRead_end : ∀ (f : Nat) (l : List Fd), l.length ≤ f → (lnRead f l).2.2.length ≤ 3
  | 0, l, h => by simp only [lnRead]; omega
  | f + 1, l, h => by
    rw [lnRead]
    by_cases h1 : l = [] ∨ unfin l = true
    · rw [if_pos h1]
      rcases h1 with rfl | h1
      · simp
      · match l, h1 with
        | a :: r, h1 =>
          simp only [unfin, Bool.and_eq_true, decide_eq_true_eq] at h1
          simp; omega
    · have hp : 0 < l.length := List.length_pos_iff.2 fun e => h1 (.inl e)
      rw [if_neg h1]
      by_cases h2 : isMg l = true
      · rw [if_pos h2]
        exact lnRead_end f _ (by rw [List.length_drop]; omega)
      · rw [if_neg h2]
        exact lnRead_end f _ (by rw [List.length_drop]; omega)
theorem fedBy_whole {t : Int} : ∀ {l : List Fd}, (∀ f ∈ l, f.tick ≤ t) → fedBy t l = l.length
  | [], _ => rfl
  | a :: l, h => by rw [fedBy_cons_le (h a (by simp)), fedBy_whole fun f hf => h f (by simp [hf])]; rfl
theorem fedBy_all {t F : Int} {l : List Fd} (h : LnIn F l) (hF : F ≤ t) : fedBy t l = l.length := fedBy_whole fun f hf => by have := (h.fd f hf).2; omega
theorem exLine_short {c : Cfg} {t F : Int} {l : List Fd} {r : Rdg} (h : LnIn F l) (hF : F ≤ t) : (exLine c t l r).1.length ≤ 3 := by
  rw [exLine_two c t l r h.tk, fedBy_all h hF, List.take_length]
  simp only [List.length_drop]
  have := lnRead_end l.length l (Nat.le_refl _)
  obtain ⟨k, hk, hkl, _⟩ := lnRead_drop l.length l
  rw [hk, List.length_drop] at this ⊢
  omega
theorem exLines_short {c : Cfg} {t F : Int} : ∀ (ls : List (List Fd)) (r : Rdg), (∀ l ∈ ls, LnIn F l) → F ≤ t → ∀ l ∈ (exLines c t ls r).1, l.length ≤ 3
  | [], _, _, _, l, hl => by simp [exLines] at hl
  | x :: ls, r, h, hF, l, hl => by
    simp only [exLines, List.mem_cons] at hl
    rcases hl with rfl | hl
    · exact exLine_short (h x (by simp)) hF
    · exact exLines_short ls _ (fun y hy => h y (by simp [hy])) hF l hl

/-- One round: the clock, the counts, the lines. -/
theorem exRound_cnt {x : Exs} {N : Int} (h : ExIn x N) : (exRound x).1.clock ≤ x.clock + 295 ∧ cnt 2 (exRound x).2 = (exRound x).1.ct.done - x.ct.done ∧ cnt 3 (exRound x).2 = (exRound x).1.ct.lost - x.ct.lost ∧ (x.fed ≤ x.clock → ∀ l ∈ (exRound x).1.lines, l.length ≤ 3) ∧ (exRound x).1.fed = x.fed ∧ (exRound x).1.cfg = x.cfg := by
  obtain ⟨⟨c1, c2⟩, ⟨c3, c4⟩, ⟨c5, c6⟩, ⟨c7, c8⟩, ⟨c9, c10⟩, _, _⟩ := cfgNum h.cfg
  obtain ⟨a1, a2, a3, a4, a5, a6⟩ := exLines_in (t := x.clock) x.lines h.ln h.rd
  obtain ⟨b1, b2⟩ := exLines_cnt x.cfg x.clock x.lines ⟨x.jobs, x.ct, []⟩
  have b3 := exLines_short (c := x.cfg) (t := x.clock) x.lines ⟨x.jobs, x.ct, []⟩ h.ln
  simp only [cnt_nil] at b1 b2
  simp only at a4
  generalize hp : exLines x.cfg x.clock x.lines ⟨x.jobs, x.ct, []⟩ = p at *
  cases hj : p.2.jobs[firstJ p.2.jobs]? with
  | none =>
    have e : exRound x = ({ x with lines := p.1, jobs := p.2.jobs, ct := p.2.ct, clock := x.clock + x.cfg.poll + x.cfg.idle }, p.2.out) := by
      unfold exRound
      simp only [hp, hj]
    rw [e]
    exact ⟨by simp only; omega, by simp only; omega, by simp only; omega, fun hF => b3 hF, rfl, rfl⟩
  | some j =>
    have e : exRound x = ({ x with lines := p.1, jobs := p.2.jobs.eraseIdx (firstJ p.2.jobs), ct := { p.2.ct with done := p.2.ct.done + 1 }, clock := x.clock + x.cfg.poll + x.cfg.sw + j.cost }, p.2.out ++ [⟨1, x.clock + x.cfg.poll, j.number, j.task, j.deadline⟩, ⟨2, x.clock + x.cfg.poll + x.cfg.sw + j.cost, j.number, j.task, j.deadline⟩]) := by
      unfold exRound
      simp only [hp, hj]
    rw [e]
    obtain ⟨_, _, j0, j1⟩ := a3.jb j (List.mem_of_getElem? hj)
    have k2 : cnt 2 [(⟨1, x.clock + x.cfg.poll, j.number, j.task, j.deadline⟩ : Ev), ⟨2, x.clock + x.cfg.poll + x.cfg.sw + j.cost, j.number, j.task, j.deadline⟩] = 1 := by simp [cnt]
    have k3 : cnt 3 [(⟨1, x.clock + x.cfg.poll, j.number, j.task, j.deadline⟩ : Ev), ⟨2, x.clock + x.cfg.poll + x.cfg.sw + j.cost, j.number, j.task, j.deadline⟩] = 0 := by simp [cnt]
    exact ⟨by simp only; omega, by simp only [cnt_append]; omega, by simp only [cnt_append]; omega, fun hF => b3 hF, rfl, rfl⟩

theorem exRun_cnt (u : Int) : ∀ (f : Nat) {x : Exs} {N : Int}, ExIn x N → (exRun u f x).1.clock ≤ max x.clock (u + 294) ∧ x.clock ≤ (exRun u f x).1.clock ∧ cnt 2 (exRun u f x).2 = (exRun u f x).1.ct.done - x.ct.done ∧ cnt 3 (exRun u f x).2 = (exRun u f x).1.ct.lost - x.ct.lost ∧ ((exRun u f x).2.length : Int) ≤ 34 * ((exRun u f x).1.clock - x.clock) ∧ (exRun u f x).1.fed = x.fed ∧ (exRun u f x).1.cfg = x.cfg
  | 0, x, _, _ => ⟨by simp only [exRun]; omega, by simp [exRun], by simp [exRun, cnt_nil], by simp [exRun, cnt_nil], by simp [exRun], rfl, rfl⟩
  | f + 1, x, N, h => by
    unfold exRun
    split
    · rename_i hc
      obtain ⟨r1, r2, r3⟩ := exRound_in h hc.2
      obtain ⟨s1, s2, s3, _, s5, s6⟩ := exRound_cnt h
      obtain ⟨t1, t2, t3, t4, t5, t6, t7⟩ := exRun_cnt u f r1
      refine ⟨by simp only; omega, by simp only; omega, by simp only [cnt_append]; omega, by simp only [cnt_append]; omega, by simp only [List.length_append]; omega, t6.trans s5, t7.trans s6⟩
    · exact ⟨by simp only; omega, by simp, by simp [cnt_nil], by simp [cnt_nil], by simp, rfl, rfl⟩
/-- With fuel enough a run comes to its end. -/
theorem exRun_end (u : Int) : ∀ (f : Nat) {x : Exs} {N : Int}, ExIn x N → min u 3000 - x.clock ≤ (f : Int) → min u 3000 ≤ (exRun u f x).1.clock
  | 0, x, _, _, hf => by simp only [exRun]; omega
  | f + 1, x, N, h, hf => by
    unfold exRun
    split
    · rename_i hc
      obtain ⟨r1, r2, _⟩ := exRound_in h hc.2
      exact exRun_end u f r1 (by omega)
    · rename_i hc
      simp only
      omega
/-- At the end at most three bytes are left on a line. -/
theorem exRun_short : ∀ (f : Nat) {x : Exs} {N : Int}, ExIn x N → ((∀ l ∈ x.lines, l.length ≤ 3) ∨ x.clock < 2999) → ((∀ l ∈ (exRun 3000 f x).1.lines, l.length ≤ 3) ∨ (exRun 3000 f x).1.clock < 2999)
  | 0, _, _, _, hp => hp
  | f + 1, x, N, h, hp => by
    unfold exRun
    split
    · rename_i hc
      obtain ⟨r1, _, _⟩ := exRound_in h hc.2
      obtain ⟨s1, _, _, s4, _⟩ := exRound_cnt h
      refine exRun_short f r1 ?_
      have := h.fe1
      by_cases hk : x.fed ≤ x.clock
      · exact .inl (s4 hk)
      · right; omega
    · exact hp
theorem held_short : ∀ (ls : List (List Fd)), (∀ l ∈ ls, l.length ≤ 3) → held ls ≤ 3 * ls.length
  | [], _ => by simp [held]
  | l :: ls, h => by
    have h1 := h l (by simp)
    have h2 := held_short ls (fun x hx => h x (by simp [hx]))
    rw [held_cons]; simp; omega
theorem held_le : ∀ (ls : List (List Fd)), (∀ l ∈ ls, l.length ≤ 32) → held ls ≤ 32 * ls.length
  | [], _ => by simp [held]
  | l :: ls, h => by
    have h1 := h l (by simp)
    have h2 := held_le ls (fun x hx => h x (by simp [hx]))
    rw [held_cons]; simp; omega

end Go.Proofs.YthloffgebebijaaGreat

namespace Go.Proofs.YthloffgebebijaaGreat
open Go.RowKit

/-- How long a task's jobs may take. -/
def dueOf (c : Cfg) (k : Int) : Int := (c.tasks.map Tk.due).getD k.toNat 0
theorem dueOf_in {c : Cfg} (h : cfgOk c = true) {k : Int} (_h0 : 0 ≤ k) (h1 : k < c.tasks.length) : 1 ≤ dueOf c k ∧ dueOf c k ≤ 400 := by
  obtain ⟨_, _, _, _, _, _, hd⟩ := cfgNum h
  obtain ⟨t, ht⟩ := get_of_lt (l := c.tasks) (k := k.toNat) (by omega)
  have := hd t (List.mem_of_getElem? ht)
  have e : dueOf c k = t.due := by simp [dueOf, ht]
  rw [e]
  exact this

/-- Events, one by one: from the end e to the end e'. -/
def WfE (c : Cfg) : Int → List Ev → Int → Prop
  | e, [], e' => e = e'
  | e, [d], e' => d.kind = 3 ∧ e ≤ d.tick ∧ d.job = -1 ∧ e = e'
  | e, b :: d :: es, e' => (b.kind = 3 ∧ e ≤ b.tick ∧ b.job = -1 ∧ WfE c e (d :: es) e') ∨ (b.kind = 1 ∧ e + c.poll ≤ b.tick ∧ d.kind = 2 ∧ d.job = b.job ∧ d.task = b.task ∧ d.deadline = b.deadline ∧ b.tick + c.sw < d.tick ∧ WfE c d.tick es e')
theorem WfE.nil {c : Cfg} (e : Int) : WfE c e [] e := by simp only [WfE]
theorem WfE.lost {c : Cfg} {e e' : Int} {d : Ev} {es : List Ev} (h1 : d.kind = 3) (h2 : e ≤ d.tick) (h3 : d.job = -1) (h4 : WfE c e es e') : WfE c e (d :: es) e' := by
  cases es with
  | nil => simp only [WfE] at h4 ⊢; exact ⟨h1, h2, h3, h4⟩
  | cons x es => simp only [WfE]; exact .inl ⟨h1, h2, h3, h4⟩
theorem WfE.pair {c : Cfg} {e e' : Int} {b d : Ev} {es : List Ev} (h1 : b.kind = 1) (h2 : e + c.poll ≤ b.tick) (h3 : d.kind = 2) (h4 : d.job = b.job) (h5 : d.task = b.task) (h6 : d.deadline = b.deadline) (h7 : b.tick + c.sw < d.tick) (h8 : WfE c d.tick es e') : WfE c e (b :: d :: es) e' := by
  simp only [WfE]; exact .inr ⟨h1, h2, h3, h4, h5, h6, h7, h8⟩
theorem WfE.parts {c : Cfg} {e e' : Int} {d : Ev} {r : List Ev} (h : WfE c e (d :: r) e') : (d.kind = 3 ∧ e ≤ d.tick ∧ d.job = -1 ∧ WfE c e r e') ∨ ∃ x es, r = x :: es ∧ d.kind = 1 ∧ e + c.poll ≤ d.tick ∧ x.kind = 2 ∧ x.job = d.job ∧ x.task = d.task ∧ x.deadline = d.deadline ∧ d.tick + c.sw < x.tick ∧ WfE c x.tick es e' := by
  cases r with
  | nil => simp only [WfE] at h ⊢; exact .inl h
  | cons x es => simp only [WfE] at h; exact h.imp id fun h => ⟨x, es, rfl, h⟩
theorem WfE.append {c : Cfg} {e e' e'' : Int} {a b : List Ev} (h : WfE c e a e') (k : WfE c e' b e'') : WfE c e (a ++ b) e'' := by
  generalize hn : a.length = n
  induction n using Nat.strongRecOn generalizing a e with
  | ind n ih =>
    cases a with
    | nil => simp only [WfE] at h; rw [h]; exact k
    | cons d r =>
      rw [List.length_cons] at hn
      rcases h.parts with ⟨h1, h2, h3, h4⟩ | ⟨x, es, rfl, h1, h2, h3, h4, h5, h6, h7, h8⟩
      · exact .lost h1 h2 h3 (ih r.length (by omega) h4 rfl)
      · rw [List.length_cons] at hn
        exact .pair h1 h2 h3 h4 h5 h6 h7 (ih es.length (by omega) h8 rfl)
theorem WfE.losts {c : Cfg} {e : Int} : ∀ {ds : List Ev}, (∀ d ∈ ds, d.kind = 3 ∧ e ≤ d.tick ∧ d.job = -1) → WfE c e ds e
  | [], _ => .nil e
  | d :: ds, h => .lost (h d (by simp)).1 (h d (by simp)).2.1 (h d (by simp)).2.2 (WfE.losts fun x hx => h x (by simp [hx]))

/-- How many bytes of a line were fed by the tick t. -/
def lo (t : Int) (l : List Fd) : Nat := l.countP fun f => decide (f.tick ≤ t)
theorem lo_sub {t : Int} {l l' : List Fd} (h : l'.Sublist l) : lo t l' ≤ lo t l := h.countP_le
/-- A message that is read comes behind each tick by which at most three bytes were fed. -/
theorem lnRead_late {T : Int} : ∀ (f : Nat) (l : List Fd), Ticks l → lo T l ≤ 3 → ∀ m ∈ (lnRead f l).1, T < m.tick
  | 0, l, _, _, m, hm => by simp [lnRead] at hm
  | f + 1, l, ht, hl, m, hm => by
    rw [lnRead] at hm
    by_cases h1 : l = [] ∨ unfin l = true
    · rw [if_pos h1] at hm; simp at hm
    · rw [if_neg h1] at hm
      by_cases h2 : isMg l = true
      · rw [if_pos h2] at hm
        rcases List.mem_cons.1 hm with rfl | hm
        · match l, h2 with
          | a :: p :: q :: z :: r, h2 =>
            show T < z.tick
            refine Int.not_le.1 fun hz => ?_
            have ha : a.tick ≤ z.tick := (List.pairwise_cons.1 ht).1 z (by simp)
            have ht1 := (List.pairwise_cons.1 ht).2
            have hp : p.tick ≤ z.tick := (List.pairwise_cons.1 ht1).1 z (by simp)
            have ht2 := (List.pairwise_cons.1 ht1).2
            have hq : q.tick ≤ z.tick := (List.pairwise_cons.1 ht2).1 z (by simp)
            unfold lo at hl
            rw [List.countP_cons_of_pos (by simp; omega), List.countP_cons_of_pos (by simp; omega), List.countP_cons_of_pos (by simp; omega), List.countP_cons_of_pos (by simp; omega)] at hl
            omega
        · exact lnRead_late f _ (ht.sublist (List.drop_sublist _ _)) (Nat.le_trans (lo_sub (List.drop_sublist _ _)) hl) m hm
      · rw [if_neg h2] at hm
        exact lnRead_late f _ (ht.sublist (List.drop_sublist _ _)) (Nat.le_trans (lo_sub (List.drop_sublist _ _)) hl) m hm
/-- A message's tick is that of one of the line's bytes. -/
theorem lnRead_tick {t : Int} : ∀ (f : Nat) (l : List Fd), (∀ x ∈ l, x.tick ≤ t) → ∀ m ∈ (lnRead f l).1, m.tick ≤ t
  | 0, l, _, m, hm => by simp [lnRead] at hm
  | f + 1, l, h, m, hm => by
    rw [lnRead] at hm
    by_cases h1 : l = [] ∨ unfin l = true
    · rw [if_pos h1] at hm; simp at hm
    · rw [if_neg h1] at hm
      by_cases h2 : isMg l = true
      · rw [if_pos h2] at hm
        rcases List.mem_cons.1 hm with rfl | hm
        · match l, h2 with
          | a :: p :: q :: z :: r, h2 => exact h z (by simp)
        · exact lnRead_tick f _ (fun x hx => h x (List.mem_of_mem_drop hx)) m hm
      · rw [if_neg h2] at hm
        exact lnRead_tick f _ (fun x hx => h x (List.mem_of_mem_drop hx)) m hm

/-- A message of a task, read at t from one of the lines. -/
structure MgOk (c : Cfg) (t : Int) (ls : List (List Fd)) (m : Mg) : Prop where
  ok : MgIn m
  le : m.tick ≤ t
  kn : m.task < c.tasks.length
  late : ∀ T, (∀ l ∈ ls, lo T l ≤ 3) → T < m.tick
theorem MgOk.mono {c : Cfg} {t : Int} {ls ls' : List (List Fd)} {m : Mg} (h : MgOk c t ls m) (hs : ∀ l ∈ ls, l ∈ ls') : MgOk c t ls' m := ⟨h.ok, h.le, h.kn, fun T hT => h.late T fun l hl => hT l (hs l hl)⟩

/-- What a reading adds. -/
def RdNew (c : Cfg) (t : Int) (Q : Mg → Prop) (r r' : Rdg) : Prop :=
  ∃ new newo, r'.jobs = r.jobs ++ new ∧ r'.out = r.out ++ newo ∧ r.ct.jobs ≤ r'.ct.jobs ∧ (∀ j ∈ new, r.ct.jobs ≤ j.number ∧ ∃ m, Q m ∧ j.task = m.task ∧ j.deadline = m.tick + dueOf c m.task ∧ j.cost = m.cost) ∧ ∀ e ∈ newo, e.kind = 3 ∧ e.tick = t ∧ e.job = -1 ∧ ∃ m, Q m ∧ e.task = m.task ∧ e.deadline = m.tick + dueOf c m.task
theorem RdNew.refl (c : Cfg) (t : Int) (Q : Mg → Prop) (r : Rdg) : RdNew c t Q r r := ⟨[], [], by simp, by simp, Int.le_refl _, by simp, by simp⟩
theorem RdNew.trans {c : Cfg} {t : Int} {Q : Mg → Prop} {r r1 r2 : Rdg} (h : RdNew c t Q r r1) (k : RdNew c t Q r1 r2) : RdNew c t Q r r2 := by
  obtain ⟨n1, o1, a1, a2, a3, a4, a5⟩ := h
  obtain ⟨n2, o2, b1, b2, b3, b4, b5⟩ := k
  refine ⟨n1 ++ n2, o1 ++ o2, by rw [b1, a1, List.append_assoc], by rw [b2, a2, List.append_assoc], by omega, ?_, ?_⟩
  · intro j hj
    rcases List.mem_append.1 hj with hj | hj
    · exact a4 j hj
    · obtain ⟨h1, h2⟩ := b4 j hj
      exact ⟨by omega, h2⟩
  · intro e he
    rcases List.mem_append.1 he with he | he
    · exact a5 e he
    · exact b5 e he
theorem RdNew.mono {c : Cfg} {t : Int} {Q Q' : Mg → Prop} {r r1 : Rdg} (h : RdNew c t Q r r1) (k : ∀ m, Q m → Q' m) : RdNew c t Q' r r1 := by
  obtain ⟨n1, o1, a1, a2, a3, a4, a5⟩ := h
  refine ⟨n1, o1, a1, a2, a3, fun j hj => ?_, fun e he => ?_⟩
  · obtain ⟨h1, m, hm, h2⟩ := a4 j hj
    exact ⟨h1, m, k m hm, h2⟩
  · obtain ⟨h1, h2, h3, m, hm, h4⟩ := a5 e he
    exact ⟨h1, h2, h3, m, k m hm, h4⟩
theorem exTake_new {c : Cfg} {t : Int} {Q : Mg → Prop} (r : Rdg) {m : Mg} (hm : m.task < c.tasks.length → Q m) : RdNew c t Q r (exTake c t r m) := by
  unfold exTake
  split
  · exact ⟨[], [], by simp, by simp, Int.le_refl _, by simp, by simp⟩
  · rename_i hk
    split
    · refine ⟨[], [⟨3, t, -1, m.task, m.tick + (c.tasks.map Tk.due).getD m.task.toNat 0⟩], by simp, rfl, Int.le_refl _, by simp, ?_⟩
      intro e he
      simp only [List.mem_cons, List.not_mem_nil, or_false] at he
      subst he
      exact ⟨rfl, rfl, rfl, m, hm (by omega), rfl, rfl⟩
    · refine ⟨[⟨r.ct.jobs, m.task, m.tick + (c.tasks.map Tk.due).getD m.task.toNat 0, m.cost⟩], [], rfl, by simp, by simp only; omega, ?_, by simp⟩
      intro j hj
      simp only [List.mem_cons, List.not_mem_nil, or_false] at hj
      subst hj
      exact ⟨Int.le_refl _, m, hm (by omega), rfl, rfl, rfl⟩
theorem foldTake_new {c : Cfg} {t : Int} {Q : Mg → Prop} : ∀ (ms : List Mg) (r : Rdg), (∀ m ∈ ms, m.task < c.tasks.length → Q m) → RdNew c t Q r (ms.foldl (exTake c t) r)
  | [], r, _ => RdNew.refl c t Q r
  | m :: ms, r, h => by
    rw [List.foldl_cons]
    exact (exTake_new r (h m (by simp))).trans (foldTake_new ms _ fun x hx => h x (by simp [hx]))
theorem exLine_new {c : Cfg} {t F : Int} {l : List Fd} {r : Rdg} (hl : LnIn F l) : RdNew c t (MgOk c t [l]) r (exLine c t l r).2 ∧ (exLine c t l r).1.Sublist l ∧ lo t (exLine c t l r).1 ≤ 3 := by
  have hf := (filter_fed (t := t) hl.tk).1
  refine ⟨?_, ?_, ?_⟩
  · rw [exLine_two c t l r hl.tk]
    have h1 := lnRead_in l.length (l.take (fedBy t l)) (fun x hx => (hl.fd x (List.mem_of_mem_take hx)).1)
    have h2 : ∀ m ∈ (lnRead l.length (l.take (fedBy t l))).1, m.tick ≤ t := lnRead_tick _ _ fun x hx => by
      rw [← hf] at hx
      simpa using (List.mem_filter.1 hx).2
    have h3 : ∀ T, lo T l ≤ 3 → ∀ m ∈ (lnRead l.length (l.take (fedBy t l))).1, T < m.tick := fun T hT => lnRead_late _ _ (hl.tk.sublist (List.take_sublist _ _)) (Nat.le_trans (lo_sub (List.take_sublist _ _)) hT)
    exact foldTake_new _ _ fun m hm hk => ⟨h1 m hm, h2 m hm, hk, fun T hT => h3 T (hT l (by simp)) m hm⟩
  · rw [exLine_two c t l r hl.tk]
    exact List.drop_sublist _ _
  · unfold exLine
    simp only [lo, List.countP_append]
    have h0 : (l.filter fun f => !decide (f.tick ≤ t)).countP (fun f => decide (f.tick ≤ t)) = 0 := by
      rw [List.countP_eq_zero]
      intro a ha
      simpa using (List.mem_filter.1 ha).2
    rw [exRead_two]
    have h3 := lnRead_end l.length (l.filter fun f => decide (f.tick ≤ t)) (List.length_filter_le _ _)
    have h4 : (lnRead l.length (l.filter fun f => decide (f.tick ≤ t))).2.2.countP (fun f => decide (f.tick ≤ t)) ≤ (lnRead l.length (l.filter fun f => decide (f.tick ≤ t))).2.2.length := List.countP_le_length
    simp only at h3 h4 ⊢
    omega
theorem exLines_new {c : Cfg} {t F : Int} : ∀ (ls : List (List Fd)) (r : Rdg), (∀ l ∈ ls, LnIn F l) → RdNew c t (MgOk c t ls) r (exLines c t ls r).2 ∧ ∀ l' ∈ (exLines c t ls r).1, lo t l' ≤ 3 ∧ ∃ l ∈ ls, l'.Sublist l
  | [], r, _ => ⟨RdNew.refl _ _ _ _, by simp [exLines]⟩
  | l :: ls, r, h => by
    obtain ⟨a1, a2, a3⟩ := exLine_new (c := c) (t := t) (r := r) (h l (by simp))
    obtain ⟨b1, b2⟩ := exLines_new (c := c) (t := t) ls (exLine c t l r).2 fun x hx => h x (by simp [hx])
    refine ⟨(a1.mono fun m hm => hm.mono (by simp)).trans (b1.mono fun m hm => hm.mono fun x hx => by simp [hx]), ?_⟩
    intro l' hl'
    simp only [exLines, List.mem_cons] at hl'
    rcases hl' with rfl | hl'
    · exact ⟨a3, l, by simp, a2⟩
    · obtain ⟨h1, x, hx, h2⟩ := b2 l' hl'
      exact ⟨h1, x, by simp [hx], h2⟩

/-- Of a job that was begun and one that waits. -/
def RBJ (c : Cfg) (a : Ev) (j : Jb) : Prop := a.job ≠ j.number ∧ (j.deadline - dueOf c j.task ≤ a.tick - c.poll → ¬ (j.deadline < a.deadline ∨ j.deadline = a.deadline ∧ j.number < a.job))
/-- Of two that were begun. -/
def RBB (c : Cfg) (a b : Ev) : Prop := a.job ≠ b.job ∧ (b.deadline - dueOf c b.task ≤ a.tick - c.poll → ¬ (b.deadline < a.deadline ∨ b.deadline = a.deadline ∧ b.job < a.job))
def begs (es : List Ev) : List Ev := es.filter fun e => decide (e.kind = 1)
theorem begs_append (a b : List Ev) : begs (a ++ b) = begs a ++ begs b := by simp [begs]
/-- The numbers of an event. -/
structure EvIn (c : Cfg) (e : Ev) : Prop where
  t0 : 0 ≤ e.task
  t1 : e.task < c.tasks.length
  a0 : 0 ≤ e.tick
  a1 : e.tick ≤ 3294
  d0 : 0 ≤ e.deadline
  d1 : e.deadline ≤ 1400
structure JbIn (c : Cfg) (j : Jb) : Prop where
  t0 : 0 ≤ j.task
  t1 : j.task < c.tasks.length
  d0 : 0 ≤ j.deadline
  d1 : j.deadline ≤ 1400

/-- What stands between the calls: what was done, and what waits. -/
structure WhP (c : Cfg) (x : Exs) (done : List Ev) : Prop where
  cf : x.cfg = c
  wf : ∃ e, WfE c 0 done e ∧ e ≤ x.clock
  ord : (begs done).Pairwise (RBB c)
  past : ∀ a ∈ begs done, a.job < x.ct.jobs ∧ a.tick - c.poll < x.clock ∧ (∀ l ∈ x.lines, lo (a.tick - c.poll) l ≤ 3) ∧ ∀ j ∈ x.jobs, RBJ c a j
  ev : ∀ e ∈ done, EvIn c e
  jb : ∀ j ∈ x.jobs, JbIn c j

theorem exNew_wh (c : Cfg) : WhP c (exNew c) [] := ⟨rfl, ⟨0, .nil 0, Int.le_refl _⟩, by simp [begs], by simp [begs], by simp, by simp [exNew]⟩
theorem lineFeed_lo {T t : Int} (h : T < t) : ∀ (bs : List Int) (l : List Fd) (s : Int), lo T (bs.foldl (lineAdd t) (l, s)).1 = lo T l
  | [], _, _ => rfl
  | b :: bs, l, s => by
    rw [List.foldl_cons, lineAdd]
    split
    · rw [lineFeed_lo h bs]
      simp [lo]
      omega
    · exact lineFeed_lo h bs l _
theorem exFeed_wh {c : Cfg} {x : Exs} {done : List Ev} {line t : Int} {bs : List Int} (h : WhP c x done) (h0 : (exFeed x line t bs).2 = 0) : WhP c (exFeed x line t bs).1 done := by
  unfold exFeed at h0 ⊢
  split at h0
  · rename_i h1
    rw [if_pos h1]
    split at h0
    · simp at h0
    · rename_i h2
      rw [if_neg h2]
      refine ⟨h.cf, h.wf, h.ord, fun a ha => ?_, h.ev, h.jb⟩
      obtain ⟨p1, p2, p3, p4⟩ := h.past a ha
      refine ⟨p1, p2, fun l hl => ?_, p4⟩
      simp only at hl
      rcases List.mem_or_eq_of_mem_set hl with hl | rfl
      · exact p3 l hl
      · unfold lineFeed
        rw [lineFeed_lo (by omega)]
        cases hg : x.lines[line.toNat]? with
        | none => rw [List.getD_eq_getElem?_getD, hg]; simp [lo]
        | some l => rw [List.getD_eq_getElem?_getD, hg]; exact p3 l (List.mem_of_getElem? hg)
  · simp at h0

theorem exRound_wh {c : Cfg} {x : Exs} {N : Int} {done : List Ev} (h : WhP c x done) (hi : ExIn x N) (hc : x.clock < 3000) : WhP c (exRound x).1 (done ++ (exRound x).2) := by
  have hcf := h.cf
  have hok := hi.cfg
  obtain ⟨⟨c1, c2⟩, ⟨c3, c4⟩, ⟨c5, c6⟩, ⟨c7, c8⟩, ⟨c9, c10⟩, ⟨c11, c12⟩, _⟩ := cfgNum hok
  obtain ⟨a1, a2, a3, a4, a5, a6⟩ := exLines_in (t := x.clock) x.lines hi.ln hi.rd
  obtain ⟨⟨new, newo, n1, n2, n3, n4, n5⟩, n6⟩ := exLines_new (c := x.cfg) (t := x.clock) x.lines ⟨x.jobs, x.ct, []⟩ hi.ln
  have hck := hi.ck0
  generalize hp : exLines x.cfg x.clock x.lines ⟨x.jobs, x.ct, []⟩ = p at *
  obtain ⟨e0, hw, he0⟩ := h.wf
  simp only [List.nil_append] at n1 n2 n3 n4
  -- what was read
  have hnj : ∀ j ∈ new, JbIn c j := by
    intro j hj
    obtain ⟨_, m, hm, h1, h2, _⟩ := n4 j hj
    have d := dueOf_in hok hm.ok.t0 hm.kn
    have k0 := hm.ok.k0
    have k1 := hm.ok.k1
    have k2 := hm.ok.t0
    have k3 := hm.kn
    rw [hcf] at d k3 h2
    exact ⟨by omega, by omega, by omega, by omega⟩
  have hjb : ∀ j ∈ p.2.jobs, JbIn c j := by
    intro j hj
    rw [n1] at hj
    rcases List.mem_append.1 hj with hj | hj
    · exact h.jb j hj
    · exact hnj j hj
  have hno : ∀ e ∈ newo, EvIn c e := by
    intro e he
    obtain ⟨_, h3, _, m, hm, h1, h2⟩ := n5 e he
    have d := dueOf_in hok hm.ok.t0 hm.kn
    have k0 := hm.ok.k0
    have k1 := hm.ok.k1
    have k2 := hm.ok.t0
    have k3 := hm.kn
    rw [hcf] at d k3 h2
    exact ⟨by omega, by omega, by omega, by omega, by omega, by omega⟩
  have hlw : WfE c e0 p.2.out e0 := by
    rw [n2]
    exact WfE.losts fun d hd => by
      obtain ⟨h1, h2, h3, _⟩ := n5 d hd
      exact ⟨h1, by omega, h3⟩
  have hbo : begs p.2.out = [] := by
    rw [n2]
    refine List.filter_eq_nil_iff.2 fun e he => ?_
    have := (n5 e he).1
    simp [this]
  have hev : ∀ e ∈ done ++ p.2.out, EvIn c e := by
    intro e he
    rw [n2] at he
    rcases List.mem_append.1 he with he | he
    · exact h.ev e he
    · exact hno e he
  have hpast : ∀ a ∈ begs done, a.job < p.2.ct.jobs ∧ a.tick - c.poll < x.clock ∧ (∀ l ∈ p.1, lo (a.tick - c.poll) l ≤ 3) ∧ ∀ j ∈ p.2.jobs, RBJ c a j := by
    intro a ha
    obtain ⟨p1, p2, p3, p4⟩ := h.past a ha
    refine ⟨by omega, p2, fun l hl => ?_, fun j hj => ?_⟩
    · obtain ⟨_, l2, h2, h3⟩ := n6 l hl
      exact Nat.le_trans (lo_sub h3) (p3 l2 h2)
    · rw [n1] at hj
      rcases List.mem_append.1 hj with hj | hj
      · exact p4 j hj
      · obtain ⟨h1, m, hm, h2, h3, _⟩ := n4 j hj
        have hl := hm.late _ p3
        rw [hcf] at h3
        refine ⟨by omega, fun hh => ?_⟩
        rw [h2, h3] at hh
        omega
  have hlo : ∀ l ∈ p.1, lo x.clock l ≤ 3 := fun l hl => (n6 l hl).1
  have hpo : x.cfg.poll = c.poll := by rw [hcf]
  have hsw : x.cfg.sw = c.sw := by rw [hcf]
  cases hj : p.2.jobs[firstJ p.2.jobs]? with
  | none =>
    have e : exRound x = ({ x with lines := p.1, jobs := p.2.jobs, ct := p.2.ct, clock := x.clock + x.cfg.poll + x.cfg.idle }, p.2.out) := by
      unfold exRound
      simp only [hp, hj]
    rw [e]
    refine ⟨hcf, ⟨e0, hw.append hlw, by simp only; omega⟩, ?_, ?_, hev, hjb⟩
    · rw [begs_append, hbo, List.append_nil]; exact h.ord
    · intro a ha
      rw [begs_append, hbo, List.append_nil] at ha
      obtain ⟨p1, p2, p3, p4⟩ := hpast a ha
      exact ⟨p1, by simp only; omega, p3, p4⟩
  | some j =>
    have e : exRound x = ({ x with lines := p.1, jobs := p.2.jobs.eraseIdx (firstJ p.2.jobs), ct := { p.2.ct with done := p.2.ct.done + 1 }, clock := x.clock + x.cfg.poll + x.cfg.sw + j.cost }, p.2.out ++ [⟨1, x.clock + x.cfg.poll, j.number, j.task, j.deadline⟩, ⟨2, x.clock + x.cfg.poll + x.cfg.sw + j.cost, j.number, j.task, j.deadline⟩]) := by
      unfold exRound
      simp only [hp, hj]
    rw [e]
    have hjm := List.mem_of_getElem? hj
    obtain ⟨j0, j1, j2, j3⟩ := a3.jb j hjm
    have hjin := hjb j hjm
    have hbeg : begs (done ++ (p.2.out ++ [⟨1, x.clock + x.cfg.poll, j.number, j.task, j.deadline⟩, ⟨2, x.clock + x.cfg.poll + x.cfg.sw + j.cost, j.number, j.task, j.deadline⟩])) = begs done ++ [⟨1, x.clock + x.cfg.poll, j.number, j.task, j.deadline⟩] := by
      rw [begs_append, begs_append, hbo]
      simp [begs]
    have hfs := (firstJ_spec (js := p.2.jobs) (List.length_pos_iff.2 fun e => by rw [e] at hjm; simp at hjm)).2
    refine ⟨hcf, ⟨x.clock + x.cfg.poll + x.cfg.sw + j.cost, (hw.append hlw).append (a := done ++ p.2.out) ?_ |> fun z => by rw [← List.append_assoc]; exact z, Int.le_refl _⟩, ?_, ?_, ?_, ?_⟩
    · exact .pair rfl (by simp only; omega) rfl rfl rfl rfl (by simp only; omega) (.nil _)
    · rw [hbeg]
      refine List.pairwise_append.2 ⟨h.ord, by simp, ?_⟩
      intro a ha b hb
      simp only [List.mem_cons, List.not_mem_nil, or_false] at hb
      subst hb
      exact (hpast a ha).2.2.2 j hjm
    · intro a ha
      rw [hbeg] at ha
      rcases List.mem_append.1 ha with ha | ha
      · obtain ⟨p1, p2, p3, p4⟩ := hpast a ha
        exact ⟨p1, by simp only; omega, p3, fun q hq => p4 q (List.mem_of_mem_eraseIdx hq)⟩
      · simp only [List.mem_cons, List.not_mem_nil, or_false] at ha
        subst ha
        refine ⟨j1, by simp only; omega, ?_, ?_⟩
        · simp only
          rw [show x.clock + x.cfg.poll - c.poll = x.clock from by omega]
          exact hlo
        · intro q hq
          refine ⟨?_, fun _ => ?_⟩
          · simp only
            intro hn
            have hnd := a3.nd
            obtain ⟨i, hi1, hi2⟩ := List.mem_eraseIdx_iff_getElem?.1 hq
            have h1 : (p.2.jobs.map Jb.number)[i]? = some q.number := by simp [hi2]
            have h2 : (p.2.jobs.map Jb.number)[firstJ p.2.jobs]? = some j.number := by simp [hj]
            rw [← hn] at h1
            have hl := lt_of_get h2
            exact hi1 ((List.getElem?_inj hl hnd).1 (h2.trans h1.symm)).symm
          · obtain ⟨i, hi1, hi2⟩ := List.mem_eraseIdx_iff_getElem?.1 hq
            have := hfs i q j hi2 hj
            rw [jle_iff] at this
            simp only
            omega
    · intro q hq
      rw [← List.append_assoc] at hq
      rcases List.mem_append.1 hq with hq | hq
      · exact hev q hq
      · have := (exRound_in hi hc).1.ck1
        rw [e] at this
        simp only at this
        simp only [List.mem_cons, List.not_mem_nil, or_false] at hq
        rcases hq with rfl | rfl
        · exact ⟨hjin.t0, hjin.t1, by simp only; omega, by simp only; omega, hjin.d0, hjin.d1⟩
        · exact ⟨hjin.t0, hjin.t1, by simp only; omega, by simp only; omega, hjin.d0, hjin.d1⟩
    · intro q hq
      exact hjb q (List.mem_of_mem_eraseIdx hq)

theorem exRun_wh (u : Int) {c : Cfg} : ∀ (f : Nat) {x : Exs} {N : Int} {done : List Ev}, WhP c x done → ExIn x N → WhP c (exRun u f x).1 (done ++ (exRun u f x).2)
  | 0, x, _, done, h, _ => by simpa [exRun] using h
  | f + 1, x, N, done, h, hi => by
    unfold exRun
    split
    · rename_i hc
      have := exRun_wh u f (exRound_wh h hi hc.2) (exRound_in hi hc.2).1
      rw [List.append_assoc] at this
      exact this
    · simpa using h

end Go.Proofs.YthloffgebebijaaGreat
