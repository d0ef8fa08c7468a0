/- BookB: the book of tillerlaw as data: rows of entries, each of which bears its mark. -/
import Derived.Test.YtjhgmamhnjejmaaBookA
import Derived.Test.YtjhgmamhnjejmaaBookI
import Derived.Test.YtjhgmamhnjejmaaMark
namespace Go.Proofs.Ytjhgmamhnjejmaa
open Go.RowKit

theorem flatten_get {es : List (List Value)} {k : Nat} (h : ∀ c ∈ es, c.length = k) (i j : Nat) (hj : j < k) : es.flatten[i * k + j]? = (es[i]?).bind (·[j]?) := by
  induction es generalizing i with
  | nil => simp
  | cons c r ih =>
    have hc := h c (by simp)
    cases i with
    | zero => simp only [Nat.zero_mul, Nat.zero_add, List.flatten_cons, List.getElem?_cons_zero, Option.bind_some]; rw [List.getElem?_append_left (by omega)]
    | succ i =>
      rw [List.flatten_cons, List.getElem?_append_right (by rw [hc, Nat.add_mul]; omega), hc, show (i + 1) * k + j - k = i * k + j from by rw [Nat.add_mul]; omega, ih (fun c hc => h c (by simp [hc]))]
      simp
theorem flatten_len {es : List (List Value)} {k : Nat} (h : ∀ c ∈ es, c.length = k) : es.flatten.length = es.length * k := by
  induction es with
  | nil => simp
  | cons c r ih => rw [List.flatten_cons, List.length_append, ih (fun c hc => h c (by simp [hc])), h c (by simp), List.length_cons, Nat.add_mul]; omega

/-- A row of the book: n entries, the i-th of which bears the i-th mark. -/
def Ents (w : World) (S : Nat → Prop) (B : Nat) (te e : TypeId) (size : Nat) (mark : Nat → List Value) (v : Value) (n : Nat) : Prop :=
  ∃ es : List (List Value), w.ownsRow B te 5 v n es.flatten ∧ es.length = n ∧ (∀ k, v.ownBlock = some k → S k) ∧
    ∀ (i : Nat) (c : List Value), es[i]? = some c → ∃ l0 l1 l2 l3, c = [l0, l1, l2, l3, .int .i64 i] ∧ Bears w S e size (mark i) (.agg #[l0, l1, l2, l3, .int .i64 i]) i

theorem ents_five {es : List (List Value)} {P : Nat → Value → Value → Value → Value → Prop} (h : ∀ (i : Nat) (c : List Value), es[i]? = some c → ∃ l0 l1 l2 l3, c = [l0, l1, l2, l3, .int .i64 i] ∧ P i l0 l1 l2 l3) : ∀ c ∈ es, c.length = 5 := by
  intro c hc
  obtain ⟨i, hi⟩ := List.getElem?_of_mem hc
  obtain ⟨l0, l1, l2, l3, rfl, _⟩ := h i c hi
  rfl

theorem owns_same {w w' : World} {base : Nat} {e : TypeId} {size n : Nat} {v : Value} {xs : List Value} (h : w.ownsRow base e size v n xs) (hs : ∀ k, v.ownBlock = some k → w'.heap[k]? = w.heap[k]?) : w'.ownsRow base e size v n xs := by
  obtain ⟨h1, h2⟩ := h
  refine ⟨h1, h2.imp id ?_⟩
  rintro ⟨g, cap, cur, rfl, hg, hh, r⟩
  exact ⟨g, cap, cur, rfl, hg, (hs g rfl).trans hh, r⟩
theorem owns_keptT {w w' : World} {base : Nat} {e e' : TypeId} {size n B : Nat} {v : Value} {xs : List Value} (h : w.ownsRow base e size v n xs) (hk : KeepBut e' B w w') (hne : e ≠ e') : w'.ownsRow base e size v n xs := by
  obtain ⟨h1, h2⟩ := h
  refine ⟨h1, h2.imp id ?_⟩
  rintro ⟨g, cap, cur, hv, hg, hh, r⟩
  exact ⟨g, cap, cur, hv, hg, (show Blk w' g cur e from Blk.kept (show Blk w g cur e from hh) hk hne), r⟩

theorem Ents.same {w w' : World} {S S' : Nat → Prop} {B : Nat} {te e : TypeId} {size n : Nat} {mark : Nat → List Value} {v : Value} (h : Ents w S B te e size mark v n) (hs : ∀ k, S k → w'.heap[k]? = w.heap[k]?) (hS : ∀ k, S k → S' k) : Ents w' S' B te e size mark v n := by
  obtain ⟨es, h1, h2, h3, h4⟩ := h
  refine ⟨es, owns_same h1 fun k hk => hs k (h3 k hk), h2, fun k hk => hS k (h3 k hk), fun i c hc => ?_⟩
  obtain ⟨l0, l1, l2, l3, rfl, hb⟩ := h4 i c hc
  exact ⟨l0, l1, l2, l3, rfl, hb.same hs hS⟩
theorem Ents.keptBut {w w' : World} {S : Nat → Prop} {B B' : Nat} {te e e' : TypeId} {size n : Nat} {mark : Nat → List Value} {v : Value} (h : Ents w S B te e size mark v n) (hk : KeepBut e' B' w w') (ht : te ≠ e') (he : e ≠ e') : Ents w' S B te e size mark v n := by
  obtain ⟨es, h1, h2, h3, h4⟩ := h
  refine ⟨es, owns_keptT h1 hk ht, h2, h3, fun i c hc => ?_⟩
  obtain ⟨l0, l1, l2, l3, rfl, hb⟩ := h4 i c hc
  exact ⟨l0, l1, l2, l3, rfl, hb.keptBut hk he⟩
theorem Ents.slice {w : World} {S : Nat → Prop} {B : Nat} {te e : TypeId} {size n : Nat} {mark : Nat → List Value} {v : Value} (h : Ents w S B te e size mark v n) : ∃ a cap, v = .slice a n cap := by
  obtain ⟨es, ⟨_, ho⟩, _⟩ := h
  rcases ho with ⟨rfl, hn⟩ | ⟨g, cap, cur, rfl, _⟩
  · exact ⟨none, 0, by rw [hn]⟩
  · exact ⟨_, cap, rfl⟩
theorem Ents.nil (w : World) (S : Nat → Prop) (B : Nat) (te e : TypeId) (size : Nat) (mark : Nat → List Value) : Ents w S B te e size mark (.slice none 0 0) 0 :=
  ⟨[], World.ownsRow_nil w B te 5, rfl, fun k hk => by simp [Value.ownBlock] at hk, fun i c hc => by simp at hc⟩

/-- The i-th entry. -/
theorem Ents.get {w : World} {S : Nat → Prop} {B : Nat} {te e : TypeId} {size n : Nat} {mark : Nat → List Value} {v : Value} (h : Ents w S B te e size mark v n) {i : Nat} (hi : i < n) :
    ∃ b cap l0 l1 l2 l3, v = .slice (some ⟨b, 0, none⟩) n cap ∧ b < w.heap.size ∧ w.cell? ⟨b, i * 5, none⟩ = some l0 ∧ w.cell? ⟨b, i * 5 + 1, none⟩ = some l1 ∧ w.cell? ⟨b, i * 5 + 2, none⟩ = some l2 ∧ w.cell? ⟨b, i * 5 + 3, none⟩ = some l3 ∧ w.cell? ⟨b, i * 5 + 4, none⟩ = some (.int .i64 i) ∧
      Bears w S e size (mark i) (.agg #[l0, l1, l2, l3, .int .i64 i]) i := by
  obtain ⟨es, ho, h2, h3, h4⟩ := h
  obtain ⟨c, hc⟩ := get_of_lt (l := es) (k := i) (by omega)
  have h5 := ents_five h4
  obtain ⟨l0, l1, l2, l3, rfl, hb⟩ := h4 i c hc
  rcases ho.2 with ⟨rfl, h0⟩ | ⟨g, cap, cur, rfl, hg, hh, hnc, hcm, hcs, ht⟩
  · omega
  refine ⟨g, cap, l0, l1, l2, l3, rfl, lt_of_block hh, ?_⟩
  have hcell : ∀ j, j < 5 → w.cell? ⟨g, i * 5 + j, none⟩ = [l0, l1, l2, l3, Value.int .i64 i][j]? := by
    intro j hj
    rw [cell_of_row w g _ cur te (0, 0) hh]
    have : (cur.toList.take (n * 5))[i * 5 + j]? = es.flatten[i * 5 + j]? := by rw [ht]
    rw [List.getElem?_take, if_pos (by omega), flatten_get h5 i j hj, hc] at this
    simpa using this
  exact ⟨by simpa using hcell 0 (by decide), by simpa using hcell 1 (by decide), by simpa using hcell 2 (by decide), by simpa using hcell 3 (by decide), by simpa using hcell 4 (by decide), hb⟩

theorem Bears.bound {w : World} {S : Nat → Prop} {e : TypeId} {size m : Nat} {cs : List Value} {r : Value} (h : Bears w S e size cs r m) : Bears w (fun k => S k ∧ k < w.heap.size) e size cs r m := by
  obtain ⟨l0, l1, l2, l3, n0, n1, n2, n3, hr, ⟨m0, m1, m2, m3⟩, hn, hs⟩ := h
  refine ⟨l0, l1, l2, l3, n0, n1, n2, n3, hr, ⟨m0, m1, m2, m3⟩, hn, fun k hk => ⟨hs k hk, ?_⟩⟩
  rcases hk with hk | hk | hk | hk
  · exact (World.ownsRow.lt m0 k hk).2
  · exact (World.ownsRow.lt m1 k hk).2
  · exact (World.ownsRow.lt m2 k hk).2
  · exact (World.ownsRow.lt m3 k hk).2
theorem Ents.bound {w : World} {S : Nat → Prop} {B : Nat} {te e : TypeId} {size n : Nat} {mark : Nat → List Value} {v : Value} (h : Ents w S B te e size mark v n) : Ents w (fun k => S k ∧ k < w.heap.size) B te e size mark v n := by
  obtain ⟨es, h1, h2, h3, h4⟩ := h
  refine ⟨es, h1, h2, fun k hk => ⟨h3 k hk, (World.ownsRow.lt h1 k hk).2⟩, fun i c hc => ?_⟩
  obtain ⟨l0, l1, l2, l3, rfl, hb⟩ := h4 i c hc
  exact ⟨l0, l1, l2, l3, rfl, hb.bound⟩

/-- The book, in the block W of tillerlaw's World. -/
def BookAt (w : World) (S : Nat → Prop) (B W : Nat) (ps : Value) (nb ni ne nl nt : Nat) : Prop :=
  (∀ k, S k → B ≤ k ∧ k < w.heap.size) ∧ S W ∧ ∃ vb vi ve vl vt, Blk w W #[ps, vb, vi, ve, vl, vt] 50 ∧
    Ents w S B 74 5 1 markB vb nb ∧ Ents w S B 76 3 1 markI vi ni ∧ Ents w S B 79 148 5 markE ve ne ∧
    Ents w S B 81 62 2 markL vl nl ∧ Ents w S B 83 60 3 markT vt nt

theorem BookAt.same {w w' : World} {S : Nat → Prop} {B W : Nat} {ps : Value} {nb ni ne nl nt : Nat} (h : BookAt w S B W ps nb ni ne nl nt) (hs : ∀ k, S k → w'.heap[k]? = w.heap[k]?) (hz : w.heap.size ≤ w'.heap.size) : BookAt w' S B W ps nb ni ne nl nt := by
  obtain ⟨h1, h2, vb, vi, ve, vl, vt, hb, e1, e2, e3, e4, e5⟩ := h
  exact ⟨fun k hk => ⟨(h1 k hk).1, Nat.lt_of_lt_of_le (h1 k hk).2 hz⟩, h2, vb, vi, ve, vl, vt, (hs W h2).trans hb, e1.same hs fun _ => id, e2.same hs fun _ => id, e3.same hs fun _ => id, e4.same hs fun _ => id, e5.same hs fun _ => id⟩
theorem BookAt.later {w w' : World} {S : Nat → Prop} {B W : Nat} {ps : Value} {nb ni ne nl nt : Nat} (h : BookAt w S B W ps nb ni ne nl nt) (hb : Below w.heap.size w w') : BookAt w' S B W ps nb ni ne nl nt :=
  h.same (fun k hk => hb.block k (h.1 k hk).2) hb.size

theorem Bears.stillB {w : World} {S : Nat → Prop} {r : Value} {m : Nat} (h : Bears w S 5 1 (markB m) r m) : StillB w r m := by
  obtain ⟨l0, l1, l2, l3, n0, n1, n2, n3, hr, ⟨m0, m1, m2, m3⟩, hn, _⟩ := h
  exact ⟨l0, l1, l2, l3, n0, n1, n2, n3, hr, m0.even rfl, m1.even rfl, m2.even rfl, m3.even rfl, by omega, by omega, by omega, by omega⟩
theorem Bears.stillI {w : World} {S : Nat → Prop} {r : Value} {m : Nat} (h : Bears w S 3 1 (markI m) r m) : StillI w r m := by
  obtain ⟨l0, l1, l2, l3, n0, n1, n2, n3, hr, ⟨m0, m1, m2, m3⟩, hn, _⟩ := h
  exact ⟨l0, l1, l2, l3, n0, n1, n2, n3, hr, m0.even rfl, m1.even rfl, m2.even rfl, m3.even rfl, by omega, by omega, by omega, by omega⟩
theorem Bears.stillE {w : World} {S : Nat → Prop} {r : Value} {m : Nat} (h : Bears w S 148 5 (markE m) r m) : StillE w r m := by
  obtain ⟨l0, l1, l2, l3, n0, n1, n2, n3, hr, ⟨m0, m1, m2, m3⟩, hn, _⟩ := h
  exact ⟨l0, l1, l2, l3, n0, n1, n2, n3, hr, m0.even rfl, m1.even rfl, m2.even rfl, m3.even rfl, by omega, by omega, by omega, by omega⟩
theorem Bears.stillL {w : World} {S : Nat → Prop} {r : Value} {m : Nat} (h : Bears w S 62 2 (markL m) r m) : StillL w r m := by
  obtain ⟨l0, l1, l2, l3, n0, n1, n2, n3, hr, ⟨m0, m1, m2, m3⟩, hn, _⟩ := h
  exact ⟨l0, l1, l2, l3, n0, n1, n2, n3, hr, m0.even rfl, m1.even rfl, m2.even rfl, m3.even rfl, by omega, by omega, by omega, by omega⟩
theorem Bears.stillT {w : World} {S : Nat → Prop} {r : Value} {m : Nat} (h : Bears w S 60 3 (markT m) r m) : StillT w r m := by
  obtain ⟨l0, l1, l2, l3, n0, n1, n2, n3, hr, ⟨m0, m1, m2, m3⟩, hn, _⟩ := h
  exact ⟨l0, l1, l2, l3, n0, n1, n2, n3, hr, m0.even rfl, m1.even rfl, m2.even rfl, m3.even rfl, by omega, by omega, by omega, by omega⟩

/-- All old blocks outside X are as they were. -/
structure Fr (X : Nat → Prop) (w w' : World) : Prop where
  os : w'.os = w.os
  tape : w'.tape = w.tape
  output : w'.output = w.output
  size : w.heap.size ≤ w'.heap.size
  block : ∀ k, k < w.heap.size → ¬ X k → w'.heap[k]? = w.heap[k]?

theorem Fr.refl (X : Nat → Prop) (w : World) : Fr X w w := ⟨rfl, rfl, rfl, Nat.le_refl _, fun _ _ _ => rfl⟩
theorem Fr.trans {X Y : Nat → Prop} {a b c : World} (h : Fr X a b) (k : Fr Y b c) (hs : ∀ q, q < a.heap.size → Y q → X q) : Fr X a c :=
  ⟨k.os.trans h.os, k.tape.trans h.tape, k.output.trans h.output, Nat.le_trans h.size k.size, fun i hi hn => (k.block i (Nat.lt_of_lt_of_le hi h.size) (fun hy => hn (hs i hi hy))).trans (h.block i hi hn)⟩
theorem Fr.of_below {X : Nat → Prop} {w w' : World} (h : Below w.heap.size w w') : Fr X w w' := ⟨h.os, h.tape, h.output, h.size, fun k hk _ => h.block k hk⟩
theorem Fr.of_grown {w w' : World} {row : Option Nat} {X : Nat → Prop} (h : w.grownBy w' row) (hX : ∀ k, row = some k → k < w.heap.size → X k) : Fr X w w' := ⟨h.os, h.tape, h.output, h.size, fun k hk hn => h.block k hk (fun e => hn (hX k e.symm hk))⟩
theorem Fr.below {X : Nat → Prop} {w w' : World} {B : Nat} (h : Fr X w w') (hB : B ≤ w.heap.size) (hX : ∀ k, X k → B ≤ k) : Below B w w' :=
  ⟨h.os, h.tape, h.output, h.size, fun k hk => h.block k (by omega) (fun hx => by have := hX k hx; omega)⟩
theorem Fr.mono {X Y : Nat → Prop} {w w' : World} (h : Fr X w w') (hs : ∀ q, q < w.heap.size → X q → Y q) : Fr Y w w' := ⟨h.os, h.tape, h.output, h.size, fun k hk hn => h.block k hk (fun hx => hn (hs k hk hx))⟩
theorem Fr.set {X : Nat → Prop} (w : World) (L o : Nat) (v : Value) (hX : X L) : Fr X w (w.setCell ⟨L, o, none⟩ v) :=
  ⟨rfl, rfl, rfl, by simp, fun k _ hn => heap_setCell_other w ⟨L, o, none⟩ k v (fun e => hn (e ▸ hX))⟩
theorem Fr.drew {X : Nat → Prop} {w w' : World} (h : Fr X w w') : Fr X w w'.drew := ⟨h.os, h.tape, h.output, h.size, h.block⟩

/-- An append to a row of the call's own, with the place of what comes out. -/
theorem run_append_own2 {P : Program} (w : World) (base : Nat) (t ty e : TypeId) (i : TypeInfo) (z : Value) (size bytes : Nat) (ht : P.underlying t = some (.slice e)) (hi : P.info? e = some i) (hz : i.zero = some z)
    (hsize : i.size = size) (hby : i.bytes = bytes) (hzs : z.cells.size = size) (hsz : 0 < size)
    (v : Value) (n : Nat) (xs : List Value) (hown : w.ownsRow base e size v n xs)
    (a : Addr) (m c : Nat) (news : List Value) (hl : news.length = m * size) (hnews : ∀ j u, news[j]? = some u → w.cell? (a.add j) = some u) (h1 : ∀ u ∈ news, u.oneCell' = true)
    (hpos : 0 < m) (h63 : n + m ≤ maxLen) (hbytes : (n + m) * bytes ≤ 140737488355328) (hbase : base ≤ w.heap.size) :
    ∃ v' w', (Builtin.append_ #[t, t] ty #[v, .slice (some a) m c]).run P w = .ok v' w' ∧ w'.ownsRow base e size v' (n + m) (xs ++ news) ∧ w.grownBy w' v.ownBlock ∧ (v'.ownBlock = v.ownBlock ∨ v'.ownBlock = some w.heap.size) := by
  obtain ⟨v', w', hr, o, gr, _⟩ := run_append_own (P := P) w base t ty e i z size bytes ht hi hz hsize hby hzs hsz v n xs hown a m c news hl hnews h1 h63 hbytes hbase
  refine ⟨v', w', hr, o, gr, ?_⟩
  subst hsize
  subst hby
  rcases hown.2 with ⟨rfl, rfl⟩ | ⟨g, cap, cur, rfl, hbg, hg, hnc, hcm, hcz, htake⟩
  · have := run_append_nil (P := P) w t ty e i z ht hi hz a m c news hl hnews (by omega) (by simp only [maxLen] at h63; omega) (by have hb := hbytes; simp only [Nat.zero_add] at hb; omega)
    rw [hr] at this
    simp only [Result.ok.injEq] at this
    right
    rw [this.1]
    rfl
  · by_cases hroom : n + m ≤ cap
    · have hfit : n * i.size + news.length ≤ cur.size := by rw [hl, hcz, ← Nat.add_mul]; exact Nat.mul_le_mul_right _ hroom
      have hr2 := run_append_room (P := P) w t ty e i ht hi g n cap cur hg a m c news hl hnews h1 hroom hfit
      rw [hr] at hr2
      simp only [Result.ok.injEq] at hr2
      left
      rw [hr2.1]
      rfl
    · have holds : ∀ j u, xs[j]? = some u → w.cell? ((⟨g, 0, none⟩ : Addr).add j) = some u := hown.cells (g := g) rfl
      have hr2 := run_append_grow (P := P) w t ty e i z ht hi hz ⟨g, 0, none⟩ n cap xs hown.1 holds a m c news hl hnews (by omega) (by simp only [maxLen] at h63; omega) (growslice_fits (by omega) hbytes)
      rw [hr] at hr2
      simp only [Result.ok.injEq] at hr2
      right
      rw [hr2.1]
      rfl

theorem wp_append_own2 {P : Program} (w : World) {o : Oper} {a : Act} {K : Act → World → Prop} {Q : Exit → Act → World → Prop} (s x : Operand) (t : TypeId)
    (ho : o.op = .call { callee := .builtin .append, args := #[s, x], argTypes := #[t, t] })
    (base : Nat) (e : TypeId) (i : TypeInfo) (z : Value) (size bytes : Nat) (ht : P.underlying t = some (.slice e)) (hi : P.info? e = some i) (hz : i.zero = some z)
    (hsize : i.size = size) (hby : i.bytes = bytes) (hzs : z.cells.size = size) (hsz : 0 < size)
    (v : Value) (n : Nat) (xs : List Value) (hs : a.eval s = v) (hown : w.ownsRow base e size v n xs)
    (ad : Addr) (m c : Nat) (news : List Value) (hx : a.eval x = .slice (some ad) m c) (hl : news.length = m * size) (hnews : ∀ j u, news[j]? = some u → w.cell? (ad.add j) = some u) (h1 : ∀ u ∈ news, u.oneCell' = true)
    (hpos : 0 < m) (h63 : n + m ≤ maxLen) (hbytes : (n + m) * bytes ≤ 140737488355328) (hbase : base ≤ w.heap.size)
    (h : ∀ v' w', w'.ownsRow base e size v' (n + m) (xs ++ news) → w.grownBy w' v.ownBlock → (v'.ownBlock = v.ownBlock ∨ v'.ownBlock = some w.heap.size) → K (a.put o.dst v') w') : o.wp P a w K Q := by
  obtain ⟨v', w', hr, h2, h3, h4⟩ := run_append_own2 (P := P) w base t o.type e i z size bytes ht hi hz hsize hby hzs hsz v n xs hown ad m c news hl hnews h1 hpos h63 hbytes hbase
  unfold Oper.wp execOp
  simp only [ho, resolve, invoke, builtin, Sem.run_bind, Sem.run_pure, Result.andThen_ok, List.map_toArray, List.map_cons, List.map_nil, hs, hx, hr]
  exact h v' w' h2 h3 h4

/-- An append to a row of the call's own, as a step of a region that draws its order. -/
theorem step_append_own {P : Program} {ops : Array Oper} {o : Oper} {a : Act} {w : World} {K : Act → World → Prop} {Q : Exit → Act → World → Prop} {E : Prop}
    (hgd : o.guard = none) (s x : Operand) (t : TypeId) (ho : o.op = .call { callee := .builtin .append, args := #[s, x], argTypes := #[t, t] })
    (base : Nat) (e : TypeId) (i : TypeInfo) (z : Value) (size bytes : Nat) (ht : P.underlying t = some (.slice e)) (hi : P.info? e = some i) (hz : i.zero = some z)
    (hsize : i.size = size) (hby : i.bytes = bytes) (hzs : z.cells.size = size) (hsz : 0 < size)
    (v : Value) (n : Nat) (xs : List Value) (hs : a.eval s = v) (hown : w.ownsRow base e size v n xs)
    (ad : Addr) (m c : Nat) (news : List Value) (hx : a.eval x = .slice (some ad) m c) (hl : news.length = m * size) (hnews : ∀ j u, news[j]? = some u → w.cell? (ad.add j) = some u) (h1 : ∀ u ∈ news, u.oneCell' = true)
    (hpos : 0 < m) (h63 : n + m ≤ maxLen) (hbytes : (n + m) * bytes ≤ 140737488355328) (hbase : base ≤ w.heap.size)
    (h : ∀ v' w', w'.ownsRow base e size v' (n + m) (xs ++ news) → w.grownBy w' v.ownBlock → (v'.ownBlock = v.ownBlock ∨ v'.ownBlock = some w.heap.size) → K (a.put o.dst v') w') :
    if Region.wanted o (yielded ops a.tmps) = true then Oper.wp P o a w K Q else E := by
  have hw : Region.wanted o (yielded ops a.tmps) = true := by simp [Region.wanted, hgd]
  rw [if_pos hw]
  exact wp_append_own2 w s x t ho base e i z size bytes ht hi hz hsize hby hzs hsz v n xs hs hown ad m c news hx hl hnews h1 hpos h63 hbytes hbase h

/-- Behind an append of one entry to a row of the book. -/
theorem Ents.snoc {w w' : World} {S S' : Nat → Prop} {B : Nat} {te e : TypeId} {size n : Nat} {mark : Nat → List Value} {v' : Value} {l0 l1 l2 l3 : Value} {es : List (List Value)}
    (hl : es.length = n) (h4 : ∀ (i : Nat) (c : List Value), es[i]? = some c → ∃ l0 l1 l2 l3, c = [l0, l1, l2, l3, .int .i64 i] ∧ Bears w S e size (mark i) (.agg #[l0, l1, l2, l3, .int .i64 i]) i)
    (hr : Bears w S' e size (mark n) (.agg #[l0, l1, l2, l3, .int .i64 n]) n) (hS : ∀ k, S k → S' k) (hk : KeepBut te B w w') (hne : e ≠ te)
    (ho : w'.ownsRow B te 5 v' (n + 1) (es.flatten ++ [l0, l1, l2, l3, .int .i64 n])) (hv : ∀ k, v'.ownBlock = some k → S' k) : Ents w' S' B te e size mark v' (n + 1) := by
  refine ⟨es ++ [[l0, l1, l2, l3, .int .i64 n]], by simpa using ho, by simp [hl], hv, fun i c hc => ?_⟩
  rw [List.getElem?_append] at hc
  split at hc
  · obtain ⟨k0, k1, k2, k3, rfl, hb⟩ := h4 i c hc
    exact ⟨k0, k1, k2, k3, rfl, (hb.same (fun _ _ => rfl) hS).keptBut hk hne⟩
  · rename_i hlt
    by_cases hin : i = n
    · subst hin
      simp [hl] at hc
      subst hc
      exact ⟨l0, l1, l2, l3, rfl, hr.keptBut hk hne⟩
    · rw [List.getElem?_eq_none (by simp; omega)] at hc
      simp at hc

end Go.Proofs.Ytjhgmamhnjejmaa
