/- HeapA: a binary heap of jobs in plain lists: what one swap on the way up and on the way down keeps; the first of a heap must be done first; two lists of the same jobs agree on which one that is. No function of the program is named here. -/
import Derived.Test.YthloffgebebijaaExecA
namespace Go.Proofs.Ythloffgebebijaa
open Go.RowKit

/-- b is not ahead of a. -/
def jle (a b : Jb) : Prop := jbBefore b a = false

theorem jbBefore_iff {a b : Jb} : jbBefore a b = true ↔ a.deadline < b.deadline ∨ (a.deadline = b.deadline ∧ a.number < b.number) := by
  simp [jbBefore]
theorem jle_iff {a b : Jb} : jle a b ↔ a.deadline < b.deadline ∨ (a.deadline = b.deadline ∧ a.number ≤ b.number) := by
  unfold jle
  rw [← Bool.not_eq_true, jbBefore_iff]
  omega
theorem jle_refl (a : Jb) : jle a a := by rw [jle_iff]; omega
theorem jle_trans {a b c : Jb} (h : jle a b) (k : jle b c) : jle a c := by rw [jle_iff] at *; omega
theorem jle_of_before {a b : Jb} (h : jbBefore a b = true) : jle a b := by rw [jbBefore_iff] at h; rw [jle_iff]; omega

/-- Two places are changed. -/
def swp (l : List Jb) (i j : Nat) : List Jb :=
  match l[i]?, l[j]? with
  | some a, some b => (l.set i b).set j a
  | _, _ => l
theorem swp_eq {l : List Jb} {i j : Nat} {a b : Jb} (hi : l[i]? = some a) (hj : l[j]? = some b) : swp l i j = (l.set i b).set j a := by simp only [swp, hi, hj]
theorem swp_length (l : List Jb) (i j : Nat) : (swp l i j).length = l.length := by
  unfold swp
  split <;> simp
theorem swp_get {l : List Jb} {i j : Nat} {a b : Jb} (hi : l[i]? = some a) (hj : l[j]? = some b) (k : Nat) : (swp l i j)[k]? = if k = j then some a else if k = i then some b else l[k]? := by
  have h1 := lt_of_get hi
  have h2 := lt_of_get hj
  rw [swp_eq hi hj, List.getElem?_set, List.length_set, List.getElem?_set]
  by_cases hkj : k = j
  · subst hkj; simp [h2]
  · rw [if_neg (fun h => hkj h.symm), if_neg hkj]
    by_cases hki : k = i
    · subst hki; simp [h1]
    · rw [if_neg (fun h => hki h.symm), if_neg hki]
theorem swp_perm (l : List Jb) (i j : Nat) : (swp l i j).Perm l := by
  unfold swp
  split
  · rename_i a b hi hj
    obtain ⟨h1, rfl⟩ := List.getElem?_eq_some_iff.1 hi
    obtain ⟨h2, rfl⟩ := List.getElem?_eq_some_iff.1 hj
    rw [List.perm_iff_count]
    intro x
    rw [List.count_set (by simpa using h2), List.count_set h1, List.getElem_set]
    have p1 : 0 < l.count l[i] := List.count_pos_iff.2 (List.getElem_mem _)
    have p2 : 0 < l.count l[j] := List.count_pos_iff.2 (List.getElem_mem _)
    by_cases hij : i = j
    · subst hij
      by_cases hx : l[i] = x
      · subst hx; simp
      · simp [hx]
    · by_cases hx : l[i] = x
      · by_cases hy : l[j] = x
        · subst hx; simp [hij, hy]
        · subst hx; simp [hij, hy]
      · by_cases hy : l[j] = x
        · subst hy; simp [hij, hx]; try omega
        · simp [hij, hx, hy]
  · exact List.Perm.refl _

/-- The places up to n: none is ahead of the one above it. -/
def Heapy (l : List Jb) (n : Nat) : Prop := ∀ k a b, 0 < k → k < n → l[(k - 1) / 2]? = some a → l[k]? = some b → jle a b
/-- The same but for the place j and the one above it. -/
def UpI (l : List Jb) (n j : Nat) : Prop :=
  (∀ k a b, 0 < k → k < n → k ≠ j → l[(k - 1) / 2]? = some a → l[k]? = some b → jle a b) ∧
  (∀ k a b, 0 < j → 0 < k → k < n → (k - 1) / 2 = j → l[(j - 1) / 2]? = some a → l[k]? = some b → jle a b)
/-- The same but for the place i and those below it. -/
def DownI (l : List Jb) (n i : Nat) : Prop :=
  (∀ k a b, 0 < k → k < n → (k - 1) / 2 ≠ i → l[(k - 1) / 2]? = some a → l[k]? = some b → jle a b) ∧
  (∀ k a b, 0 < i → 0 < k → k < n → (k - 1) / 2 = i → l[(i - 1) / 2]? = some a → l[k]? = some b → jle a b)

theorem heapy_take {l : List Jb} {n : Nat} (h : Heapy l n) : Heapy (l.take n) n := fun k a b h0 hk ha hb => by
  rw [List.getElem?_take, if_pos (by omega)] at ha hb
  exact h k a b h0 hk ha hb

theorem upI_new {l : List Jb} {x : Jb} (h : Heapy l l.length) : UpI (l ++ [x]) (l.length + 1) l.length := by
  refine ⟨fun k a b h0 hk hne ha hb => ?_, fun k a b hj h0 hk he => by omega⟩
  rw [List.getElem?_append_left (by omega)] at ha hb
  exact h k a b h0 (by omega) ha hb
theorem upI_stop {l : List Jb} {n j : Nat} {a b : Jb} (h : UpI l n j) (ha : l[(j - 1) / 2]? = some a) (hb : l[j]? = some b) (hn : jbBefore b a = false) : Heapy l n := by
  intro k x y h0 hk hx hy
  by_cases he : k = j
  · subst he
    rw [ha] at hx; rw [hb] at hy
    cases hx; cases hy
    exact hn
  · exact h.1 k x y h0 hk he hx hy
theorem upI_top {l : List Jb} {n : Nat} (h : UpI l n 0) : Heapy l n := fun k x y h0 hk hx hy => h.1 k x y h0 hk (by omega) hx hy
theorem upI_step {l : List Jb} {n j : Nat} {a b : Jb} (h : UpI l n j) (h0 : 0 < j) (hjn : j < n) (ha : l[(j - 1) / 2]? = some a) (hb : l[j]? = some b) (hn : jbBefore b a = true) : UpI (swp l ((j - 1) / 2) j) n ((j - 1) / 2) := by
  have hba := jle_of_before hn
  refine ⟨fun k x y hk0 hk hne hx hy => ?_, fun k x y hi0 hk0 hk he hx hy => ?_⟩
  · rw [swp_get ha hb] at hx hy
    by_cases hkj : k = j
    · subst hkj
      rw [if_pos rfl] at hy
      rw [if_neg (by omega), if_pos rfl] at hx
      cases hx; cases hy
      exact hba
    · rw [if_neg hkj, if_neg hne] at hy
      by_cases hp : (k - 1) / 2 = j
      · rw [if_pos hp] at hx
        cases hx
        exact h.2 k _ _ h0 hk0 hk hp ha hy
      · rw [if_neg hp] at hx
        by_cases hp2 : (k - 1) / 2 = (j - 1) / 2
        · rw [if_pos hp2] at hx
          cases hx
          exact jle_trans hba (h.1 k _ _ hk0 hk hkj (by rw [hp2]; exact ha) hy)
        · rw [if_neg hp2] at hx
          exact h.1 k _ _ hk0 hk hkj hx hy
  · rw [swp_get ha hb] at hx hy
    rw [if_neg (by omega), if_neg (by omega)] at hx
    have hxa : jle x a := h.1 ((j - 1) / 2) x a hi0 (by omega) (by omega) hx ha
    by_cases hkj : k = j
    · rw [if_pos hkj] at hy
      cases hy
      exact hxa
    · rw [if_neg hkj, if_neg (by omega)] at hy
      exact jle_trans hxa (h.1 k a y hk0 hk hkj (by rw [he]; exact ha) hy)

theorem downI_new {l : List Jb} {n : Nat} (h : ∀ k a b, 2 < k → k < n → l[(k - 1) / 2]? = some a → l[k]? = some b → jle a b) : DownI l n 0 :=
  ⟨fun k a b h0 hk hne ha hb => h k a b (by omega) hk ha hb, fun k a b hi => by omega⟩
theorem downI_stop {l : List Jb} {n i : Nat} (h : DownI l n i) (hs : ∀ k a b, 0 < k → k < n → (k - 1) / 2 = i → l[i]? = some a → l[k]? = some b → jle a b) : Heapy l n := by
  intro k x y h0 hk hx hy
  by_cases he : (k - 1) / 2 = i
  · exact hs k x y h0 hk he (by rw [← he]; exact hx) hy
  · exact h.1 k x y h0 hk he hx hy
/-- One step down: m is a place below i, none below i is ahead of it, and it is ahead of i. -/
theorem downI_step {l : List Jb} {n i m : Nat} {a b : Jb} (h : DownI l n i) (hm0 : 0 < m) (hmn : m < n) (hmi : (m - 1) / 2 = i) (ha : l[i]? = some a) (hb : l[m]? = some b) (hn : jbBefore b a = true)
    (hs : ∀ k y, 0 < k → k < n → (k - 1) / 2 = i → l[k]? = some y → jle b y) : DownI (swp l i m) n m := by
  have hba := jle_of_before hn
  refine ⟨fun k x y hk0 hk hne hx hy => ?_, fun k x y hi0 hk0 hk he hx hy => ?_⟩
  · rw [swp_get ha hb] at hx hy
    rw [if_neg hne] at hx
    by_cases hkm : k = m
    · subst hkm
      rw [if_pos rfl] at hy
      rw [if_pos hmi] at hx
      cases hx; cases hy
      exact hba
    · rw [if_neg hkm] at hy
      by_cases hki : k = i
      · subst hki
        rw [if_pos rfl] at hy
        rw [if_neg (by omega)] at hx
        cases hy
        exact h.2 m x b hk0 hm0 hmn hmi hx hb
      · rw [if_neg hki] at hy
        by_cases hp : (k - 1) / 2 = i
        · rw [if_pos hp] at hx
          cases hx
          exact hs k y hk0 hk hp hy
        · rw [if_neg hp] at hx
          exact h.1 k x y hk0 hk hp hx hy
  · rw [swp_get ha hb] at hx hy
    rw [if_neg (by omega), if_pos hmi] at hx
    cases hx
    rw [if_neg (by omega), if_neg (by omega)] at hy
    exact h.1 k b y hk0 hk (by omega) (by rw [he]; exact hb) hy

/-- The first of a heap. -/
theorem heapy_first {l : List Jb} {n : Nat} {a : Jb} (h : Heapy l n) (ha : l[0]? = some a) (hn : n ≤ l.length) : ∀ k b, k < n → l[k]? = some b → jle a b := by
  intro k
  induction k using Nat.strongRecOn with
  | ind k ih =>
    intro b hk hb
    by_cases h0 : k = 0
    · subst h0
      rw [ha] at hb; cases hb
      exact jle_refl _
    · obtain ⟨x, hx⟩ := get_of_lt (l := l) (k := (k - 1) / 2) (by omega)
      exact jle_trans (ih ((k - 1) / 2) (by omega) x (by omega) hx) (h k x b (by omega) hk hx hb)

/-- What the reference goes by: the place of the first is that of one that none is ahead of. -/
theorem firstFrom_spec (js : List Jb) : ∀ (f i k : Nat), i + f = js.length → k < js.length → (∀ (q : Nat) b a, q < i → js[q]? = some b → js[k]? = some a → jle a b) →
    firstFrom js f i k < js.length ∧ ∀ (q : Nat) b a, js[q]? = some b → js[firstFrom js f i k]? = some a → jle a b := by
  intro f
  induction f with
  | zero => intro i k hi hk h; exact ⟨hk, fun q b a hq ha => h q b a (by have := lt_of_get hq; omega) hq ha⟩
  | succ f ih =>
    intro i k hi hk h
    obtain ⟨x, hx⟩ := get_of_lt (l := js) (k := i) (by omega)
    obtain ⟨y, hy⟩ := get_of_lt (l := js) (k := k) hk
    rw [firstFrom]
    simp only [hx, hy]
    refine ih (i + 1) _ (by omega) (by split <;> omega) ?_
    intro q b a hq hb ha
    split at ha
    · rename_i hc
      rw [hx] at ha; cases ha
      by_cases hqi : q = i
      · subst hqi; rw [hx] at hb; cases hb; exact jle_refl _
      · exact jle_trans (jle_of_before hc) (h q b y (by omega) hb hy)
    · rename_i hc
      rw [hy] at ha; cases ha
      by_cases hqi : q = i
      · subst hqi; rw [hx] at hb; cases hb; exact (by simpa using hc : jbBefore x y = false)
      · exact h q b y (by omega) hb hy
theorem firstJ_spec {js : List Jb} (h : 0 < js.length) : firstJ js < js.length ∧ ∀ (q : Nat) b a, js[q]? = some b → js[firstJ js]? = some a → jle a b :=
  firstFrom_spec js _ 1 0 (by omega) h fun q b a hq hb ha => by
    obtain rfl : q = 0 := by omega
    rw [hb] at ha; cases ha; exact jle_refl _

/-- Two lists of the same jobs, no two with one number: the first of the one is the first of the other, and behind it the same jobs are left. -/
theorem first_same {js hs rest : List Jb} {j : Jb} (hp : hs.Perm js) (hn : (js.map Jb.number).Nodup) (ht : (j :: rest).Perm hs) (hm : ∀ b ∈ hs, jle j b) :
    js[firstJ js]? = some j ∧ rest.Perm (js.eraseIdx (firstJ js)) := by
  have hpj := ht.trans hp
  have hl : 0 < js.length := by have := hpj.length_eq; simp at this; omega
  obtain ⟨h1, h2⟩ := firstJ_spec hl
  obtain ⟨a, ha⟩ := get_of_lt h1
  have haj : a = j := by
    have ma : a ∈ js := List.mem_of_getElem? ha
    have mj : j ∈ js := hpj.mem_iff.1 (by simp)
    obtain ⟨q, hq⟩ := List.getElem?_of_mem mj
    have e1 := h2 q j a hq ha
    have e2 := hm a (hp.mem_iff.2 ma)
    rw [jle_iff] at e1 e2
    have en : a.number = j.number := by omega
    have hq' : (js.map Jb.number)[q]? = some j.number := by simp [hq]
    have hf' : (js.map Jb.number)[firstJ js]? = some j.number := by simp [ha, en]
    have hpw := List.pairwise_iff_getElem.1 (List.nodup_iff_pairwise_ne.1 hn)
    obtain ⟨lq, eq⟩ := List.getElem?_eq_some_iff.1 hq'
    obtain ⟨lf, ef⟩ := List.getElem?_eq_some_iff.1 hf'
    rcases Nat.lt_trichotomy q (firstJ js) with hh | hh | hh
    · exact absurd (eq.trans ef.symm) (hpw _ _ lq lf hh)
    · rw [hh, ha] at hq; cases hq; rfl
    · exact absurd (ef.trans eq.symm) (hpw _ _ lf lq hh)
  subst haj
  refine ⟨ha, ?_⟩
  have e : js.Perm (a :: js.eraseIdx (firstJ js)) := by
    obtain ⟨hlt, rfl⟩ := List.getElem?_eq_some_iff.1 ha
    rw [List.eraseIdx_eq_take_drop_succ]
    refine List.Perm.trans ?_ List.perm_middle
    rw [← List.drop_eq_getElem_cons hlt, List.take_append_drop]
  exact (hpj.trans e).cons_inv

end Go.Proofs.Ythloffgebebijaa
