/- BookB: the book of tillerlaw as data: rows of entries, each of which bears its mark. -/
import Derived.Test.YthloffgebebijaaGreatBookA
import Derived.Test.YthloffgebebijaaGreatBookI
import Derived.Test.YthloffgebebijaaGreatFram
namespace Go.Proofs.YthloffgebebijaaGreat
open Go.RowKit

/-- A row of the book: n entries, the i-th of which bears the i-th mark. -/
def Ents (w : World) (S : Nat → Prop) (B : Nat) (te e : TypeId) (size : Nat) (mark : Nat → List Value) (v : Value) (n : Nat) : Prop :=
  ∃ es : List (List Value), w.ownsRow B te 5 v n es.flatten ∧ es.length = n ∧ (∀ k, v.ownBlock = some k → S k) ∧
    ∀ (i : Nat) (c : List Value), es[i]? = some c → ∃ l0 l1 l2 l3, c = [l0, l1, l2, l3, .int .i64 i] ∧ Bears w S e size (mark i) (.agg #[l0, l1, l2, l3, .int .i64 i]) i

theorem ents_five {es : List (List Value)} {P : Nat → Value → Value → Value → Value → Prop} (h : ∀ (i : Nat) (c : List Value), es[i]? = some c → ∃ l0 l1 l2 l3, c = [l0, l1, l2, l3, .int .i64 i] ∧ P i l0 l1 l2 l3) : ∀ c ∈ es, c.length = 5 := by
  intro c hc
  obtain ⟨i, hi⟩ := List.getElem?_of_mem hc
  obtain ⟨l0, l1, l2, l3, rfl, _⟩ := h i c hi
  rfl

theorem owns_same {w w' : World} {base : Nat} {e : TypeId} {size n : Nat} {v : Value} {xs : List Value} (h : w.ownsRow base e size v n xs) (hs : ∀ k, v.ownBlock = some k → w'.heap[k]? = w.heap[k]?) : w'.ownsRow base e size v n xs := by
  obtain ⟨h1, h2⟩ := h
  refine ⟨h1, h2.imp id ?_⟩
  rintro ⟨g, cap, cur, rfl, hg, hh, r⟩
  exact ⟨g, cap, cur, rfl, hg, (hs g rfl).trans hh, r⟩
theorem owns_keptT {w w' : World} {base : Nat} {e e' : TypeId} {size n B : Nat} {v : Value} {xs : List Value} (h : w.ownsRow base e size v n xs) (hk : KeepBut e' B w w') (hne : e ≠ e') : w'.ownsRow base e size v n xs := by
  obtain ⟨h1, h2⟩ := h
  refine ⟨h1, h2.imp id ?_⟩
  rintro ⟨g, cap, cur, hv, hg, hh, r⟩
  exact ⟨g, cap, cur, hv, hg, (show Blk w' g cur e from Blk.kept (show Blk w g cur e from hh) hk hne), r⟩

theorem Ents.same {w w' : World} {S S' : Nat → Prop} {B : Nat} {te e : TypeId} {size n : Nat} {mark : Nat → List Value} {v : Value} (h : Ents w S B te e size mark v n) (hs : ∀ k, S k → w'.heap[k]? = w.heap[k]?) (hS : ∀ k, S k → S' k) : Ents w' S' B te e size mark v n := by
  obtain ⟨es, h1, h2, h3, h4⟩ := h
  refine ⟨es, owns_same h1 fun k hk => hs k (h3 k hk), h2, fun k hk => hS k (h3 k hk), fun i c hc => ?_⟩
  obtain ⟨l0, l1, l2, l3, rfl, hb⟩ := h4 i c hc
  exact ⟨l0, l1, l2, l3, rfl, hb.same hs hS⟩
theorem Ents.keptBut {w w' : World} {S : Nat → Prop} {B B' : Nat} {te e e' : TypeId} {size n : Nat} {mark : Nat → List Value} {v : Value} (h : Ents w S B te e size mark v n) (hk : KeepBut e' B' w w') (ht : te ≠ e') (he : e ≠ e') : Ents w' S B te e size mark v n := by
  obtain ⟨es, h1, h2, h3, h4⟩ := h
  refine ⟨es, owns_keptT h1 hk ht, h2, h3, fun i c hc => ?_⟩
  obtain ⟨l0, l1, l2, l3, rfl, hb⟩ := h4 i c hc
  exact ⟨l0, l1, l2, l3, rfl, hb.keptBut hk he⟩
theorem Ents.slice {w : World} {S : Nat → Prop} {B : Nat} {te e : TypeId} {size n : Nat} {mark : Nat → List Value} {v : Value} (h : Ents w S B te e size mark v n) : ∃ a cap, v = .slice a n cap := by
  obtain ⟨es, ⟨_, ho⟩, _⟩ := h
  rcases ho with ⟨rfl, hn⟩ | ⟨g, cap, cur, rfl, _⟩
  · exact ⟨none, 0, by rw [hn]⟩
  · exact ⟨_, cap, rfl⟩
theorem Ents.nil (w : World) (S : Nat → Prop) (B : Nat) (te e : TypeId) (size : Nat) (mark : Nat → List Value) : Ents w S B te e size mark (.slice none 0 0) 0 :=
  ⟨[], World.ownsRow_nil w B te 5, rfl, fun k hk => by simp [Value.ownBlock] at hk, fun i c hc => by simp at hc⟩

/-- The i-th entry. -/
theorem Ents.get {w : World} {S : Nat → Prop} {B : Nat} {te e : TypeId} {size n : Nat} {mark : Nat → List Value} {v : Value} (h : Ents w S B te e size mark v n) {i : Nat} (hi : i < n) :
    ∃ b cap l0 l1 l2 l3, v = .slice (some ⟨b, 0, none⟩) n cap ∧ b < w.heap.size ∧ w.cell? ⟨b, i * 5, none⟩ = some l0 ∧ w.cell? ⟨b, i * 5 + 1, none⟩ = some l1 ∧ w.cell? ⟨b, i * 5 + 2, none⟩ = some l2 ∧ w.cell? ⟨b, i * 5 + 3, none⟩ = some l3 ∧ w.cell? ⟨b, i * 5 + 4, none⟩ = some (.int .i64 i) ∧
      Bears w S e size (mark i) (.agg #[l0, l1, l2, l3, .int .i64 i]) i := by
  obtain ⟨es, ho, h2, h3, h4⟩ := h
  obtain ⟨c, hc⟩ := get_of_lt (l := es) (k := i) (by omega)
  have h5 := ents_five h4
  obtain ⟨l0, l1, l2, l3, rfl, hb⟩ := h4 i c hc
  rcases ho.2 with ⟨rfl, h0⟩ | ⟨g, cap, cur, rfl, hg, hh, hnc, hcm, hcs, ht⟩
  · omega
  refine ⟨g, cap, l0, l1, l2, l3, rfl, lt_of_block hh, ?_⟩
  have hcell : ∀ j, j < 5 → w.cell? ⟨g, i * 5 + j, none⟩ = [l0, l1, l2, l3, Value.int .i64 i][j]? := by
    intro j hj
    rw [cell_of_row w g _ cur te (0, 0) hh]
    have : (cur.toList.take (n * 5))[i * 5 + j]? = es.flatten[i * 5 + j]? := by rw [ht]
    rw [List.getElem?_take, if_pos (by omega), flatten_get h5 i j hj, hc] at this
    simpa using this
  exact ⟨by simpa using hcell 0 (by decide), by simpa using hcell 1 (by decide), by simpa using hcell 2 (by decide), by simpa using hcell 3 (by decide), by simpa using hcell 4 (by decide), hb⟩

theorem Bears.bound {w : World} {S : Nat → Prop} {e : TypeId} {size m : Nat} {cs : List Value} {r : Value} (h : Bears w S e size cs r m) : Bears w (fun k => S k ∧ k < w.heap.size) e size cs r m := by
  obtain ⟨l0, l1, l2, l3, n0, n1, n2, n3, hr, ⟨m0, m1, m2, m3⟩, hn, hs⟩ := h
  refine ⟨l0, l1, l2, l3, n0, n1, n2, n3, hr, ⟨m0, m1, m2, m3⟩, hn, fun k hk => ⟨hs k hk, ?_⟩⟩
  rcases hk with hk | hk | hk | hk
  · exact (World.ownsRow.lt m0 k hk).2
  · exact (World.ownsRow.lt m1 k hk).2
  · exact (World.ownsRow.lt m2 k hk).2
  · exact (World.ownsRow.lt m3 k hk).2
theorem Ents.bound {w : World} {S : Nat → Prop} {B : Nat} {te e : TypeId} {size n : Nat} {mark : Nat → List Value} {v : Value} (h : Ents w S B te e size mark v n) : Ents w (fun k => S k ∧ k < w.heap.size) B te e size mark v n := by
  obtain ⟨es, h1, h2, h3, h4⟩ := h
  refine ⟨es, h1, h2, fun k hk => ⟨h3 k hk, (World.ownsRow.lt h1 k hk).2⟩, fun i c hc => ?_⟩
  obtain ⟨l0, l1, l2, l3, rfl, hb⟩ := h4 i c hc
  exact ⟨l0, l1, l2, l3, rfl, hb.bound⟩

/-- The book, in the block W of tillerlaw's World. -/
def BookAt (w : World) (S : Nat → Prop) (B W : Nat) (ps : Value) (nb ni ne nl nt : Nat) : Prop :=
  (∀ k, S k → B ≤ k ∧ k < w.heap.size) ∧ S W ∧ ∃ vb vi ve vl vt, Blk w W #[ps, vb, vi, ve, vl, vt] 36 ∧
    Ents w S B 59 5 1 markB vb nb ∧ Ents w S B 61 3 1 markI vi ni ∧ Ents w S B 64 149 5 markE ve ne ∧
    Ents w S B 66 52 2 markL vl nl ∧ Ents w S B 68 55 3 markT vt nt

theorem BookAt.same {w w' : World} {S : Nat → Prop} {B W : Nat} {ps : Value} {nb ni ne nl nt : Nat} (h : BookAt w S B W ps nb ni ne nl nt) (hs : ∀ k, S k → w'.heap[k]? = w.heap[k]?) (hz : w.heap.size ≤ w'.heap.size) : BookAt w' S B W ps nb ni ne nl nt := by
  obtain ⟨h1, h2, vb, vi, ve, vl, vt, hb, e1, e2, e3, e4, e5⟩ := h
  exact ⟨fun k hk => ⟨(h1 k hk).1, Nat.lt_of_lt_of_le (h1 k hk).2 hz⟩, h2, vb, vi, ve, vl, vt, (hs W h2).trans hb, e1.same hs fun _ => id, e2.same hs fun _ => id, e3.same hs fun _ => id, e4.same hs fun _ => id, e5.same hs fun _ => id⟩
theorem BookAt.later {w w' : World} {S : Nat → Prop} {B W : Nat} {ps : Value} {nb ni ne nl nt : Nat} (h : BookAt w S B W ps nb ni ne nl nt) (hb : Below w.heap.size w w') : BookAt w' S B W ps nb ni ne nl nt :=
  h.same (fun k hk => hb.block k (h.1 k hk).2) hb.size

theorem Bears.stillB {w : World} {S : Nat → Prop} {r : Value} {m : Nat} (h : Bears w S 5 1 (markB m) r m) : StillB w r m := by
  obtain ⟨l0, l1, l2, l3, n0, n1, n2, n3, hr, ⟨m0, m1, m2, m3⟩, hn, _⟩ := h
  exact ⟨l0, l1, l2, l3, n0, n1, n2, n3, hr, m0.even rfl, m1.even rfl, m2.even rfl, m3.even rfl, by omega, by omega, by omega, by omega⟩
theorem Bears.stillI {w : World} {S : Nat → Prop} {r : Value} {m : Nat} (h : Bears w S 3 1 (markI m) r m) : StillI w r m := by
  obtain ⟨l0, l1, l2, l3, n0, n1, n2, n3, hr, ⟨m0, m1, m2, m3⟩, hn, _⟩ := h
  exact ⟨l0, l1, l2, l3, n0, n1, n2, n3, hr, m0.even rfl, m1.even rfl, m2.even rfl, m3.even rfl, by omega, by omega, by omega, by omega⟩
theorem Bears.stillE {w : World} {S : Nat → Prop} {r : Value} {m : Nat} (h : Bears w S 149 5 (markE m) r m) : StillE w r m := by
  obtain ⟨l0, l1, l2, l3, n0, n1, n2, n3, hr, ⟨m0, m1, m2, m3⟩, hn, _⟩ := h
  exact ⟨l0, l1, l2, l3, n0, n1, n2, n3, hr, m0.even rfl, m1.even rfl, m2.even rfl, m3.even rfl, by omega, by omega, by omega, by omega⟩
theorem Bears.stillL {w : World} {S : Nat → Prop} {r : Value} {m : Nat} (h : Bears w S 52 2 (markL m) r m) : StillL w r m := by
  obtain ⟨l0, l1, l2, l3, n0, n1, n2, n3, hr, ⟨m0, m1, m2, m3⟩, hn, _⟩ := h
  exact ⟨l0, l1, l2, l3, n0, n1, n2, n3, hr, m0.even rfl, m1.even rfl, m2.even rfl, m3.even rfl, by omega, by omega, by omega, by omega⟩
theorem Bears.stillT {w : World} {S : Nat → Prop} {r : Value} {m : Nat} (h : Bears w S 55 3 (markT m) r m) : StillT w r m := by
  obtain ⟨l0, l1, l2, l3, n0, n1, n2, n3, hr, ⟨m0, m1, m2, m3⟩, hn, _⟩ := h
  exact ⟨l0, l1, l2, l3, n0, n1, n2, n3, hr, m0.even rfl, m1.even rfl, m2.even rfl, m3.even rfl, by omega, by omega, by omega, by omega⟩

/-- Behind an append of one entry to a row of the book. -/
theorem Ents.snoc {w w' : World} {S S' : Nat → Prop} {B : Nat} {te e : TypeId} {size n : Nat} {mark : Nat → List Value} {v' : Value} {l0 l1 l2 l3 : Value} {es : List (List Value)}
    (hl : es.length = n) (h4 : ∀ (i : Nat) (c : List Value), es[i]? = some c → ∃ l0 l1 l2 l3, c = [l0, l1, l2, l3, .int .i64 i] ∧ Bears w S e size (mark i) (.agg #[l0, l1, l2, l3, .int .i64 i]) i)
    (hr : Bears w S' e size (mark n) (.agg #[l0, l1, l2, l3, .int .i64 n]) n) (hS : ∀ k, S k → S' k) (hk : KeepBut te B w w') (hne : e ≠ te)
    (ho : w'.ownsRow B te 5 v' (n + 1) (es.flatten ++ [l0, l1, l2, l3, .int .i64 n])) (hv : ∀ k, v'.ownBlock = some k → S' k) : Ents w' S' B te e size mark v' (n + 1) := by
  refine ⟨es ++ [[l0, l1, l2, l3, .int .i64 n]], by simpa using ho, by simp [hl], hv, fun i c hc => ?_⟩
  rw [List.getElem?_append] at hc
  split at hc
  · obtain ⟨k0, k1, k2, k3, rfl, hb⟩ := h4 i c hc
    exact ⟨k0, k1, k2, k3, rfl, (hb.same (fun _ _ => rfl) hS).keptBut hk hne⟩
  · rename_i hlt
    by_cases hin : i = n
    · subst hin
      simp [hl] at hc
      subst hc
      exact ⟨l0, l1, l2, l3, rfl, hr.keptBut hk hne⟩
    · rw [List.getElem?_eq_none (by simp; omega)] at hc
      simp at hc

end Go.Proofs.YthloffgebebijaaGreat
