/- Mark: rows of a call's own all of whose elements are one and the same mark, and an append of more of the mark: what bore it bears it still, whatever shares memory with what. No function of the program is named here. -/
import Derived.Test.YthloffgebebijaaGreatOwn
import Derived.ArgAppend
namespace Go.Proofs.YthloffgebebijaaGreat
open Go.RowKit

def rep (n : Nat) (cs : List Value) : List Value := (List.replicate n cs).flatten
theorem rep_zero (cs : List Value) : rep 0 cs = [] := rfl
theorem rep_succ (n : Nat) (cs : List Value) : rep (n + 1) cs = cs ++ rep n cs := by simp [rep, List.replicate_succ]
theorem rep_add (n m : Nat) (cs : List Value) : rep (n + m) cs = rep n cs ++ rep m cs := by
  induction n with
  | zero => simp [rep_zero]
  | succ n ih => rw [show n + 1 + m = n + m + 1 from by omega, rep_succ, rep_succ, ih, List.append_assoc]
theorem rep_length (n : Nat) (cs : List Value) : (rep n cs).length = n * cs.length := by
  induction n with
  | zero => simp [rep_zero]
  | succ n ih => rw [rep_succ, List.length_append, ih, Nat.add_mul]; omega
theorem rep_get (n : Nat) (cs : List Value) (j : Nat) (hj : j < n * cs.length) : (rep n cs)[j]? = cs[j % cs.length]? := by
  induction n generalizing j with
  | zero => simp at hj
  | succ n ih =>
    rw [rep_succ]
    by_cases h : j < cs.length
    · rw [List.getElem?_append_left h, Nat.mod_eq_of_lt h]
    · rw [List.getElem?_append_right (by omega), ih (j - cs.length) (by rw [Nat.add_mul] at hj; omega)]
      congr 1
      exact (Nat.mod_eq_sub_mod (by omega)).symm
theorem rep_mem {n : Nat} {cs : List Value} {u : Value} (h : u ∈ rep n cs) : u ∈ cs := by
  simp [rep] at h
  obtain ⟨_, ⟨_, rfl⟩, h⟩ := h
  exact h

/-- A row of n elements, each of which holds the cells cs. -/
def Mk (w : World) (e : TypeId) (size : Nat) (cs : List Value) (v : Value) (n : Nat) : Prop := w.ownsRow 0 e size v n (rep n cs)

theorem Mk.kept {w w' : World} {row : Option Nat} {e : TypeId} {size n : Nat} {cs : List Value} {v : Value} (h : Mk w e size cs v n) (hg : w.grownBy w' row) (hne : v.ownBlock = none ∨ v.ownBlock ≠ row) : Mk w' e size cs v n := World.ownsRow.kept h hg hne
theorem Mk.alloc {w : World} {e : TypeId} {size n : Nat} {cs : List Value} {v : Value} (h : Mk w e size cs v n) (o : Obj) : Mk (w.alloc o) e size cs v n := World.ownsRow.alloc h o
theorem Mk.slice {w : World} {e : TypeId} {size n : Nat} {cs : List Value} {v : Value} (h : Mk w e size cs v n) : ∃ a cap, v = .slice a n cap := by
  obtain ⟨_, ho⟩ := h
  rcases ho with ⟨rfl, hn⟩ | ⟨g, cap, cur, rfl, _⟩
  · exact ⟨none, 0, by rw [hn]⟩
  · exact ⟨_, cap, rfl⟩

theorem grownBy_refl (w : World) (row : Option Nat) : w.grownBy w row := ⟨rfl, rfl, rfl, Nat.le_refl _, fun _ _ _ => rfl⟩
/-- One frame behind the other: the second's row is the first's, or is new. -/
theorem grownBy_trans {a b c : World} {r r' : Option Nat} (h : a.grownBy b r) (k : b.grownBy c r') (hr : r' = none ∨ r' = r ∨ ∃ g, r' = some g ∧ a.heap.size ≤ g) : a.grownBy c r :=
  ⟨k.os.trans h.os, k.tape.trans h.tape, k.output.trans h.output, Nat.le_trans h.size k.size, fun i hi hne => by
    refine (k.block i (Nat.lt_of_lt_of_le hi h.size) ?_).trans (h.block i hi hne)
    rcases hr with rfl | rfl | ⟨g, rfl, hg⟩
    · simp
    · exact hne
    · intro hh; simp only [Option.some.injEq] at hh; omega⟩
theorem grownBy_below {w w' : World} (h : Below w.heap.size w w') (row : Option Nat) : w.grownBy w' row :=
  ⟨h.os, h.tape, h.output, h.size, fun k hk _ => h.block k hk⟩
theorem below_grownBy {w w' : World} (h : w.grownBy w' none) : Below w.heap.size w w' :=
  ⟨h.os, h.tape, h.output, h.size, fun k hk => h.block k hk (by simp)⟩
theorem below_grownBy_new {w w' : World} {row : Option Nat} {B : Nat} (h : w.grownBy w' row) (hB : B ≤ w.heap.size) (hr : ∀ g, row = some g → B ≤ g) : Below B w w' :=
  ⟨h.os, h.tape, h.output, h.size, fun k hk => h.block k (by omega) (fun hh => by have := hr k hh.symm; omega)⟩

section
variable {P : Program} (w : World)

theorem run_append_mark (t ty e : TypeId) (i : TypeInfo) (z : Value) (size bytes : Nat) (ht : P.underlying t = some (.slice e)) (hi : P.info? e = some i) (hz : i.zero = some z)
    (hsize : i.size = size) (hby : i.bytes = bytes) (hzs : z.cells.size = size) (hsz : 0 < size) (cs : List Value) (hcs : cs.length = size) (h1 : ∀ u ∈ cs, u.oneCell' = true)
    (v : Value) (n : Nat) (hm : Mk w e size cs v n)
    (a : Addr) (m c : Nat) (hpos : 0 < m) (hnews : ∀ j u, (rep m cs)[j]? = some u → w.cell? (a.add j) = some u)
    (h63 : n + m ≤ maxLen) (hbytes : (n + m) * bytes ≤ 140737488355328) :
    ∃ v' w', (Builtin.append_ #[t, t] ty #[v, .slice (some a) m c]).run P w = .ok v' w' ∧ Mk w' e size cs v' (n + m) ∧ w.grownBy w' v.ownBlock ∧
      (v'.ownBlock = v.ownBlock ∨ v'.ownBlock = some w.heap.size) ∧ ∀ u k, Mk w e size cs u k → Mk w' e size cs u k := by
  have hl : (rep m cs).length = m * size := by rw [rep_length, hcs]
  have hone : ∀ u ∈ rep m cs, u.oneCell' = true := fun u hu => h1 u (rep_mem hu)
  have hm' := hm
  rcases hm.2 with ⟨rfl, rfl⟩ | ⟨g, cap, cur, rfl, hbg, hg, hnc, hcm, hcz, htake⟩
  · obtain ⟨v', w', hr, o, gr, hnil⟩ := run_append_own (P := P) w 0 t ty e i z size bytes ht hi hz hsize hby hzs hsz _ 0 _ hm a m c (rep m cs) hl hnews hone h63 hbytes (Nat.zero_le _)
    obtain ⟨v2, w2, hr2, o2, gr2⟩ := (show ∃ v' w', (Builtin.append_ #[t, t] ty #[.slice none 0 0, .slice (some a) m c]).run P w = .ok v' w' ∧ w'.ownsRow w.heap.size e size v' (0 + m) (rep 0 cs ++ rep m cs) ∧ w.grownBy w' none from by
      obtain ⟨v2, w2, hr2, o2, gr2, _⟩ := run_append_own (P := P) w w.heap.size t ty e i z size bytes ht hi hz hsize hby hzs hsz (.slice none 0 0) 0 (rep 0 cs) (World.ownsRow_nil w _ e size) a m c (rep m cs) hl hnews hone h63 hbytes (Nat.le_refl _)
      exact ⟨v2, w2, hr2, o2, gr2⟩)
    rw [hr] at hr2
    obtain ⟨rfl, rfl⟩ : v' = v2 ∧ w' = w2 := by simpa using hr2
    refine ⟨v', w', hr, by unfold Mk; rw [rep_add]; exact o, gr, ?_, fun u k hu => hu.kept gr2 (by cases hv : u.ownBlock <;> simp)⟩
    right
    rcases o2.2 with ⟨rfl, h0⟩ | ⟨g, cap, cur, rfl, hgb, hgh, _⟩
    · omega
    · have hgw : g < w'.heap.size := (Array.getElem?_eq_some_iff.1 hgh).1
      have := run_append_nil (P := P) w t ty e i z ht hi hz a m c (rep m cs) (by rw [hsize]; exact hl) hnews (by omega) (by simp only [maxLen] at h63; omega) (by have hb := hbytes; simp only [Nat.zero_add] at hb; subst hby; omega)
      rw [hr] at this
      simp only [Result.ok.injEq, Value.slice.injEq, Option.some.injEq, Addr.mk.injEq] at this
      simp [Value.ownBlock, this.1.1]
  · by_cases hroom : n + m ≤ cap
    · have hfit : n * i.size + (rep m cs).length ≤ cur.size := by rw [hl, hsize, hcz, ← Nat.add_mul]; exact Nat.mul_le_mul_right _ hroom
      have hr := run_append_room (P := P) w t ty e i ht hi g n cap cur hg a m c (rep m cs) (by rw [hsize]; exact hl) hnews hone hroom hfit
      rw [hsize, htake] at hr
      rw [hsize] at hfit
      have hgt := setRow_heap w g cur (rep n cs ++ rep m cs ++ cur.toList.drop (n * size + (rep m cs).length)).toArray e (0, 0) hg
      have hgr : w.grownBy (w.setRow g (rep n cs ++ rep m cs ++ cur.toList.drop (n * size + (rep m cs).length)).toArray) (some g) := ⟨rfl, rfl, rfl, by simp, fun k _ hk => setRow_other w g k _ (fun e => hk (by simp [e]))⟩
      have hln : (rep n cs).length = n * size := by rw [rep_length, hcs]
      have hsz2 : (rep n cs ++ rep m cs ++ cur.toList.drop (n * size + (rep m cs).length)).toArray.size = cap * size := by
        simp only [List.size_toArray, List.length_append, List.length_drop, Array.length_toList, hln]
        omega
      have hget : ∀ k, k ≤ cap → cur.toList.take (k * size) = rep k cs → (rep n cs ++ rep m cs ++ cur.toList.drop (n * size + (rep m cs).length)).take (k * size) = rep k cs := by
        intro k hk hkt
        rw [← rep_add]
        have hlnm : (rep (n + m) cs).length = n * size + (rep m cs).length := by rw [rep_length, hcs, hl, Nat.add_mul]
        apply List.ext_getElem?
        intro j
        rw [List.getElem?_take]
        by_cases hj : j < k * size
        · rw [if_pos hj, rep_get k cs j (by rw [hcs]; exact hj)]
          by_cases hj2 : j < (n + m) * size
          · rw [List.getElem?_append_left (by rw [rep_length, hcs]; exact hj2), rep_get _ cs j (by rw [hcs]; exact hj2)]
          · have hlt : (rep (n + m) cs).length ≤ j := by rw [rep_length, hcs]; omega
            rw [List.getElem?_append_right hlt, List.getElem?_drop, ← hlnm, Nat.add_sub_cancel' hlt]
            have : (cur.toList.take (k * size))[j]? = (rep k cs)[j]? := by rw [hkt]
            rw [List.getElem?_take, if_pos hj, rep_get k cs j (by rw [hcs]; exact hj)] at this
            exact this
        · rw [if_neg hj, List.getElem?_eq_none (by rw [rep_length, hcs]; omega)]
      have keep : ∀ u k, Mk w e size cs u k → Mk (w.setRow g (rep n cs ++ rep m cs ++ cur.toList.drop (n * size + (rep m cs).length)).toArray) e size cs u k := by
        intro u k hu
        by_cases hb : u.ownBlock = some g
        · refine ⟨hu.1, ?_⟩
          rcases hu.2 with ⟨rfl, rfl⟩ | ⟨g', cap', cur', rfl, hbg', hg', hkc, hcm', hcz', htake'⟩
          · exact .inl ⟨rfl, rfl⟩
          · simp only [Value.ownBlock, Option.some.injEq] at hb
            subst hb
            rw [hg] at hg'
            simp only [Option.some.injEq, Obj.cells.injEq] at hg'
            obtain ⟨rfl, -⟩ := hg'
            have : cap' = cap := Nat.eq_of_mul_eq_mul_right hsz (hcz'.symm.trans hcz)
            subst this
            exact .inr ⟨_, _, _, rfl, hbg', hgt, hkc, hcm', hsz2, by simpa using hget k hkc htake'⟩
        · exact hu.kept hgr (.inr hb)
      refine ⟨_, _, hr, ?_, hgr, .inl rfl, keep⟩
      refine ⟨by rw [rep_length, hcs], .inr ⟨g, cap, _, rfl, hbg, hgt, hroom, hcm, hsz2, ?_⟩⟩
      simp only []
      rw [← rep_add, ← hcs, ← rep_length]
      exact List.take_left
    · have holds : ∀ j u, (rep n cs)[j]? = some u → w.cell? ((⟨g, 0, none⟩ : Addr).add j) = some u := hm'.cells (g := g) rfl
      have hr := run_append_grow (P := P) w t ty e i z ht hi hz ⟨g, 0, none⟩ n cap (rep n cs) (by rw [rep_length, hcs, hsize]) holds a m c (rep m cs) (by rw [hsize]; exact hl) hnews (by omega) (by simp only [maxLen] at h63; omega) (by subst hby; exact growslice_fits (by omega) hbytes)
      obtain ⟨v', w', hr2, o, gr⟩ := run_append_arg_grows (P := P) w t ty e i z size bytes ht hi hz hsize hby hzs hsz ⟨g, 0, none⟩ n cap (rep n cs) (by rw [rep_length, hcs]) holds a m c (rep m cs) hl hnews (by omega) h63 hbytes
      rw [hr2] at hr
      simp only [Result.ok.injEq] at hr
      refine ⟨v', w', hr2, ?_, ⟨gr.os, gr.tape, gr.output, gr.size, fun k hk _ => gr.block k hk (by simp)⟩, .inr (by rw [hr.1]; rfl), fun u k hu => hu.kept gr (by cases hv : u.ownBlock <;> simp)⟩
      unfold Mk
      rw [rep_add]
      obtain ⟨o1, o2⟩ := o
      exact ⟨o1, o2.imp id (fun ⟨g, cap, cur, x1, _, x3⟩ => ⟨g, cap, cur, x1, Nat.zero_le _, x3⟩)⟩

theorem wpList_mark {ops : Array Oper} {rest : List Oper} {o : Oper} {a : Act} {Q : Exit → Act → World → Prop} (hgd : o.guard = none) (s x : Operand) (t : TypeId)
    (ho : o.op = .call { callee := .builtin .append, args := #[s, x], argTypes := #[t, t] })
    (e : TypeId) (i : TypeInfo) (z : Value) (size bytes : Nat) (ht : P.underlying t = some (.slice e)) (hi : P.info? e = some i) (hz : i.zero = some z)
    (hsize : i.size = size) (hby : i.bytes = bytes) (hzs : z.cells.size = size) (hsz : 0 < size) (cs : List Value) (hcs : cs.length = size) (h1 : ∀ u ∈ cs, u.oneCell' = true)
    (v : Value) (n : Nat) (hs : a.eval s = v) (hm : Mk w e size cs v n)
    (ad : Addr) (m c : Nat) (hpos : 0 < m) (hx : a.eval x = .slice (some ad) m c) (hnews : ∀ j u, (rep m cs)[j]? = some u → w.cell? (ad.add j) = some u)
    (h63 : n + m ≤ maxLen) (hbytes : (n + m) * bytes ≤ 140737488355328)
    (h : ∀ v' w', Mk w' e size cs v' (n + m) → w.grownBy w' v.ownBlock → (v'.ownBlock = v.ownBlock ∨ v'.ownBlock = some w.heap.size) → (∀ u k, Mk w e size cs u k → Mk w' e size cs u k) → wpList P ops Q rest (a.put o.dst v') w') : wpList P ops Q (o :: rest) a w := by
  refine wpList_plain hgd fun K hK => ?_
  obtain ⟨v', w', hr, h2, h3, h4, h5⟩ := run_append_mark (P := P) w t o.type e i z size bytes ht hi hz hsize hby hzs hsz cs hcs h1 v n hm ad m c hpos hnews h63 hbytes
  unfold Oper.wp execOp
  simp only [ho, resolve, invoke, builtin, Sem.run_bind, Sem.run_pure, Result.andThen_ok, List.map_toArray, List.map_cons, List.map_nil, hs, hx, hr]
  exact hK _ _ (h v' w' h2 h3 h4 h5)

end

/-- The row v, of n elements, bears the mark in its first k. -/
def Fill (w : World) (e : TypeId) (size : Nat) (cs : List Value) (v : Value) (n k : Nat) : Prop :=
  (v = .slice none 0 0 ∧ n = 0) ∨ ∃ g cap cur, v = .slice (some ⟨g, 0, none⟩) n cap ∧ Blk w g cur e ∧ n ≤ cap ∧ cap ≤ maxLen ∧ cur.size = cap * size ∧ ∀ j, j < k * size → cur[j]? = cs[j % size]?

theorem Fill.of_owns {w : World} {base : Nat} {e : TypeId} {size n : Nat} {v : Value} {xs cs : List Value} (h : w.ownsRow base e size v n xs) : Fill w e size cs v n 0 :=
  h.2.imp id fun ⟨g, cap, cur, hv, _, hg, hn, hc, hs, _⟩ => ⟨g, cap, cur, hv, hg, hn, hc, hs, fun j hj => by omega⟩

theorem Fill.mk {w : World} {e : TypeId} {size n : Nat} {v : Value} {cs : List Value} (h : Fill w e size cs v n n) (hcs : cs.length = size) : Mk w e size cs v n := by
  refine ⟨by rw [rep_length, hcs], h.imp id ?_⟩
  rintro ⟨g, cap, cur, hv, hg, hn, hc, hs, hm⟩
  refine ⟨g, cap, cur, hv, Nat.zero_le _, hg, hn, hc, hs, ?_⟩
  apply List.ext_getElem?
  intro j
  rw [List.getElem?_take]
  by_cases hj : j < n * size
  · rw [if_pos hj, rep_get n cs j (by rw [hcs]; exact hj), hcs, ← hm j hj]
    simp
  · rw [if_neg hj, List.getElem?_eq_none (by rw [rep_length, hcs]; omega)]

theorem Fill.kept {w w' : World} {row : Option Nat} {e : TypeId} {size n k : Nat} {cs : List Value} {v : Value} (h : Fill w e size cs v n k) (hg : w.grownBy w' row) (hne : v.ownBlock = none ∨ v.ownBlock ≠ row) : Fill w' e size cs v n k := by
  refine h.imp id ?_
  rintro ⟨g, cap, cur, rfl, hgg, r⟩
  refine ⟨g, cap, cur, rfl, ?_, r⟩
  exact (hg.block g hgg.lt (by simpa [Value.ownBlock] using hne)).trans hgg

theorem grownBy_set (w : World) (g o : Nat) (v : Value) : w.grownBy (w.setCell ⟨g, o, none⟩ v) (some g) :=
  ⟨rfl, rfl, rfl, by simp, fun k _ hk => heap_setCell_other w ⟨g, o, none⟩ k v (fun e => hk (by simp [e]))⟩

/-- Every element of an even row reads the mark. -/
theorem Mk.cells_at {w : World} {e : TypeId} {size n : Nat} {cs : List Value} {v : Value} (h : Mk w e size cs v n) (hcs : cs.length = size) :
    n = 0 ∨ ∃ b cap, v = .slice (some ⟨b, 0, none⟩) n cap ∧ b < w.heap.size ∧ ∀ i, i < n → ∀ (j : Nat) (u : Value), cs[j]? = some u → w.cell? ⟨b, 0 + i * size + j, none⟩ = some u := by
  rcases h.2 with ⟨_, h0⟩ | ⟨g, cap, cur, rfl, _, hg, hn, hc, hs, ht⟩
  · exact .inl h0
  · refine .inr ⟨g, cap, rfl, lt_of_block hg, fun i hi j u hj => ?_⟩
    have hjl : j < size := by have := lt_of_get hj; omega
    have hlt : i * size + j < n * size := by
      have : (i + 1) * size ≤ n * size := Nat.mul_le_mul_right _ hi
      rw [Nat.add_mul] at this
      omega
    rw [cell_of_row w g _ cur e (0, 0) hg, Nat.zero_add]
    have h2 : (cur.toList.take (n * size))[i * size + j]? = (rep n cs)[i * size + j]? := by rw [ht]
    rw [List.getElem?_take, if_pos hlt, rep_get n cs _ (by rw [hcs]; exact hlt), hcs, Nat.mul_comm, Nat.mul_add_mod, Nat.mod_eq_of_lt hjl, hj] at h2
    rw [Nat.mul_comm]
    simpa using h2

/-- A row that is the given one's, or is new. -/
def Away (v : Value) (r : Option Nat) (B : Nat) : Prop := v.ownBlock = r ∨ ∃ g, v.ownBlock = some g ∧ B ≤ g

theorem Away.next {v v' : Value} {r : Option Nat} {B s : Nat} (h : Away v r B) (h' : v'.ownBlock = v.ownBlock ∨ v'.ownBlock = some s) (hB : B ≤ s) : Away v' r B := by
  rcases h' with e | e
  · rcases h with h | ⟨g, h, hg⟩
    · exact .inl (e.trans h)
    · exact .inr ⟨g, e.trans h, hg⟩
  · exact .inr ⟨_, e, hB⟩
theorem Away.ne {v : Value} {r : Option Nat} {B b : Nat} (h : Away v r B) (hr : r ≠ some b) (hb : b < B) : v.ownBlock ≠ some b := by
  rcases h with h | ⟨g, h, hg⟩
  · rw [h]; exact hr
  · rw [h]; intro e; simp only [Option.some.injEq] at e; omega
theorem Away.frame {a b c : World} {r : Option Nat} {v : Value} {B : Nat} (h : a.grownBy b r) (k : b.grownBy c v.ownBlock) (hv : Away v r B) (hB : a.heap.size ≤ B) : a.grownBy c r :=
  grownBy_trans h k (by rcases hv with e | ⟨g, e, hg⟩; exact .inr (.inl e); exact .inr (.inr ⟨g, e, by omega⟩))
theorem Blk.grownRow {w w' : World} {row : Option Nat} {b : Nat} {c : Array Value} {t : TypeId} (h : Blk w b c t) (hg : w.grownBy w' row) (hne : row ≠ some b) : Blk w' b c t :=
  (hg.block b h.lt (fun e => hne e.symm)).trans h

theorem Mk.keptBut {w w' : World} {e e' : TypeId} {size n B : Nat} {cs : List Value} {v : Value} (h : Mk w e size cs v n) (hk : KeepBut e' B w w') (hne : e ≠ e') : Mk w' e size cs v n := by
  obtain ⟨h1, h2⟩ := h
  refine ⟨h1, h2.imp id ?_⟩
  rintro ⟨g, cap, cur, hv, hg, hh, r⟩
  exact ⟨g, cap, cur, hv, hg, (show Blk w' g cur e from Blk.kept (show Blk w g cur e from hh) hk hne), r⟩

/-- What an entry of the book holds: four lists, all of the mark, all of them in S. -/
def Bears (w : World) (S : Nat → Prop) (e : TypeId) (size : Nat) (cs : List Value) (r : Value) (m : Nat) : Prop :=
  ∃ l0 l1 l2 l3 n0 n1 n2 n3, r = .agg #[l0, l1, l2, l3, .int .i64 m] ∧ (Mk w e size cs l0 n0 ∧ Mk w e size cs l1 n1 ∧ Mk w e size cs l2 n2 ∧ Mk w e size cs l3 n3) ∧
    (n0 ≤ 2000000 ∧ n1 ≤ 2000000 ∧ n2 ≤ 2000000 ∧ n3 ≤ 2000000) ∧ ∀ k, (l0.ownBlock = some k ∨ l1.ownBlock = some k ∨ l2.ownBlock = some k ∨ l3.ownBlock = some k) → S k

theorem Mk.at_same {w w' : World} {e : TypeId} {size n : Nat} {cs : List Value} {v : Value} (h : Mk w e size cs v n) (hs : ∀ k, v.ownBlock = some k → w'.heap[k]? = w.heap[k]?) : Mk w' e size cs v n := by
  obtain ⟨h1, h2⟩ := h
  refine ⟨h1, h2.imp id ?_⟩
  rintro ⟨g, cap, cur, rfl, hg, hh, r⟩
  exact ⟨g, cap, cur, rfl, hg, (hs g rfl).trans hh, r⟩
theorem Bears.same {w w' : World} {S S' : Nat → Prop} {e : TypeId} {size m : Nat} {cs : List Value} {r : Value} (h : Bears w S e size cs r m) (hs : ∀ k, S k → w'.heap[k]? = w.heap[k]?) (hS : ∀ k, S k → S' k) : Bears w' S' e size cs r m := by
  obtain ⟨l0, l1, l2, l3, n0, n1, n2, n3, hr, ⟨m0, m1, m2, m3⟩, hn, hk⟩ := h
  exact ⟨l0, l1, l2, l3, n0, n1, n2, n3, hr, ⟨m0.at_same fun k h => hs k (hk k (by simp [h])), m1.at_same fun k h => hs k (hk k (by simp [h])), m2.at_same fun k h => hs k (hk k (by simp [h])), m3.at_same fun k h => hs k (hk k (by simp [h]))⟩, hn, fun k h => hS k (hk k h)⟩
theorem Bears.keptBut {w w' : World} {S : Nat → Prop} {e e' : TypeId} {size m B : Nat} {cs : List Value} {r : Value} (h : Bears w S e size cs r m) (hk : KeepBut e' B w w') (hne : e ≠ e') : Bears w' S e size cs r m := by
  obtain ⟨l0, l1, l2, l3, n0, n1, n2, n3, hr, ⟨m0, m1, m2, m3⟩, hn, hs⟩ := h
  exact ⟨l0, l1, l2, l3, n0, n1, n2, n3, hr, ⟨m0.keptBut hk hne, m1.keptBut hk hne, m2.keptBut hk hne, m3.keptBut hk hne⟩, hn, hs⟩

theorem KeepBut.set {w : World} {L o B : Nat} {c : Array Value} {t : TypeId} (h : Blk w L c t) (hB : B ≤ L) (v : Value) : KeepBut t B w (w.setCell ⟨L, o, none⟩ v) :=
  ⟨rfl, rfl, rfl, by simp, fun k _ hk => heap_setCell_other w ⟨L, o, none⟩ k v (fun e => by
    subst e
    rcases hk with hk | hk
    · omega
    · exact hk c (0, 0) h)⟩

end Go.Proofs.YthloffgebebijaaGreat
