/- ComC: a house of tillerkeep in memory with what was sent; what stands at each place of comes, and what its calls make of it. -/
import Derived.Test.YthloffgebebijaaComA
import Derived.Test.YthloffgebebijaaHouC
namespace Go.Proofs.Ythloffgebebijaa
open Go.RowKit Go.MuLone

theorem msgC_B (task cost : Int) : msgC task cost = msgB task cost := rfl
def sCells (s : Int × Int) : List Value := [.int .i64 s.1, .int .i64 s.2]
def srow (ss : List (Int × Int)) : List Value := (ss.map sCells).flatten
theorem srow_append (a b : List (Int × Int)) : srow (a ++ b) = srow a ++ srow b := by simp [srow]
/-- What was sent, in a row of the call's own. -/
def SentP (w : World) (base : Nat) (v : Value) (ss : List (Int × Int)) : Prop := w.ownsRow base 69 2 v ss.length (srow ss)
theorem SentP.same {w w' : World} {base : Nat} {v : Value} {ss : List (Int × Int)} (h : SentP w base v ss) (hs : ∀ k, v.ownBlock = some k → w'.heap[k]? = w.heap[k]?) : SentP w' base v ss := ownsRow_same h hs

theorem info_sent : (Try.prog.info? 69).map (fun i => (i.zero, i.size, i.bytes)) = some (some (.agg #[.int .i64 0, .int .i64 0]), 2, 16) := by kernel_rfl
theorem wpList_appSent {w : World} {ops : Array Oper} {rest : List Oper} {o : Oper} {a : Act} {Q : Exit → Act → World → Prop} (hgd : o.guard = none) (s x : Operand)
    (ho : o.op = .call { callee := .builtin .append, args := #[s, x], argTypes := #[43, 43] })
    (base : Nat) (v : Value) (l : List (Int × Int)) (f : Int × Int) (hs : a.eval s = v) (hown : SentP w base v l) (ad : Addr) (c : Nat) (hx : a.eval x = .slice (some ad) 1 c) (hnews : ∀ j u, (sCells f)[j]? = some u → w.cell? (ad.add j) = some u) (hlen : l.length ≤ 1000000000) (hbase : base ≤ w.heap.size)
    (h : ∀ v' w', SentP w' base v' (l ++ [f]) → w.grownBy w' v.ownBlock → (v'.ownBlock = v.ownBlock ∨ v'.ownBlock = some w.heap.size) → wpList Try.prog ops Q rest (a.put o.dst v') w') :
    wpList Try.prog ops Q (o :: rest) a w := by
  obtain ⟨i0, hi0, hz0, hz1, hz2⟩ := info_parts info_sent
  refine wpList_append_own_at _ hgd s x 43 ho base 69 i0 (.agg #[.int .i64 0, .int .i64 0]) 2 16 Try.underlying43 hi0 hz0 hz1 hz2 rfl (by decide) v l.length (srow l) hs hown ad 1 c (sCells f) hx rfl hnews ?_ (by unfold maxLen; omega) (by omega) hbase ?_
  · intro u hu
    simp only [sCells, List.mem_cons, List.not_mem_nil, or_false] at hu
    rcases hu with rfl | rfl <;> rfl
  · intro v' w' o1 g1 _ l1
    refine h v' w' ?_ g1 l1
    unfold SentP
    rw [srow_append, List.length_append]
    have e : srow [f] = sCells f := by simp [srow]
    rw [e]
    exact o1

/-- The blocks of Z are as they were. -/
def Kp (Z : Nat → Prop) (w w' : World) : Prop := ∀ k, Z k → w'.heap[k]? = w.heap[k]?
theorem Kp.trans {Z : Nat → Prop} {a b c : World} (h : Kp Z a b) (k : Kp Z b c) : Kp Z a c := fun i hi => (k i hi).trans (h i hi)
/-- A house in memory, all of it above V; the blocks of Z are no part of it. -/
structure CmP (V w : World) (Z : Nat → Prop) (H X : Nat) (c : Cfg) (tv : Value) (h : Hs) : Prop where
  mem : ∃ S sv dv, HouP w S V.heap.size H X h.x c tv h.last sv dv h.done ∧ SentP w V.heap.size sv h.sent ∧ (∀ k, S k → V.heap.size ≤ k ∧ k < w.heap.size) ∧ (∀ k, sv.ownBlock = some k → ¬ S k ∧ k ≠ H ∧ dv.ownBlock ≠ some k) ∧ ∀ k, Z k → ¬ S k ∧ k ≠ H ∧ dv.ownBlock ≠ some k ∧ sv.ownBlock ≠ some k
  zl : ∀ k, Z k → k < w.heap.size
  hh : V.heap.size ≤ H
  bel : Below V.heap.size V w

theorem CmP.later {V w w' : World} {Z : Nat → Prop} {H X : Nat} {c : Cfg} {tv : Value} {h : Hs} (p : CmP V w Z H X c tv h) (hb : Below w.heap.size w w') : CmP V w' Z H X c tv h := by
  obtain ⟨⟨S, sv, dv, h1, h2, h3, h4, h5⟩, hz, hh, bel⟩ := p
  have hs := hb.size
  exact ⟨⟨S, sv, dv, h1.later hb, h2.same fun k hk => hb.block k (ownsRow_lt h2 hk).2, fun k hk => ⟨(h3 k hk).1, by have := (h3 k hk).2; omega⟩, h4, h5⟩, fun k hk => by have := hz k hk; omega, hh, bel.trans (hb.mono bel.size)⟩
/-- A new block beside it. -/
theorem CmP.beside {V w w' : World} {Z : Nat → Prop} {H X : Nat} {c : Cfg} {tv : Value} {h : Hs} (p : CmP V w Z H X c tv h) (hb : Below w.heap.size w w') {g : Nat} (h0 : w.heap.size ≤ g) (h1 : g < w'.heap.size) : CmP V w' (fun k => Z k ∨ k = g) H X c tv h := by
  have hbl := (p.later hb).bel
  obtain ⟨⟨S0, sv0, dv0, b1, b2, b3, b4, b5⟩, hz, hh, bel⟩ := p
  have hs := hb.size
  refine ⟨⟨S0, sv0, dv0, b1.later hb, b2.same fun k hk => hb.block k (ownsRow_lt b2 hk).2, fun k hk => ⟨(b3 k hk).1, by have := (b3 k hk).2; omega⟩, b4, fun k hk => ?_⟩, fun k hk => ?_, hh, hbl⟩
  · rcases hk with hk | rfl
    · exact b5 k hk
    · have := b1.blk.lt
      exact ⟨fun e => by have := (b3 _ e).2; omega, by omega, fun e => by have := (ownsRow_lt b1.ev e).2; omega, fun e => by have := (ownsRow_lt b2 e).2; omega⟩
  · rcases hk with hk | rfl
    · have := hz k hk; omega
    · exact h1
theorem CmP.forget {V w : World} {Z Z' : Nat → Prop} {H X : Nat} {c : Cfg} {tv : Value} {h : Hs} (p : CmP V w Z H X c tv h) (hz : ∀ k, Z' k → Z k) : CmP V w Z' H X c tv h := by
  obtain ⟨⟨S, sv, dv, h1, h2, h3, h4, h5⟩, hz', hh, bel⟩ := p
  exact ⟨⟨S, sv, dv, h1, h2, h3, h4, fun k e => h5 k (hz k e)⟩, fun k e => hz' k (hz k e), hh, bel⟩
theorem CmP.cells {V w : World} {Z : Nat → Prop} {H X : Nat} {c : Cfg} {tv : Value} {h : Hs} (p : CmP V w Z H X c tv h) : H < w.heap.size ∧ w.cell? ⟨H, 0, none⟩ = some (.int .i64 c.lines) ∧ w.cell? ⟨H, 5, none⟩ = some tv ∧ w.cell? ⟨H, 6, none⟩ = some (.pointer (some ⟨X, 0, none⟩)) ∧ w.cell? ⟨H, 7, none⟩ = some (.int .i64 h.last) := by
  obtain ⟨⟨S, sv, dv, h1, h2, h3, h4, h5⟩, hz, hh, bel⟩ := p
  exact ⟨h1.blk.lt, h1.blk.cell 0, h1.blk.cell 5, h1.blk.cell 6, h1.blk.cell 7⟩

/-- The executive turns, all else stays. -/
theorem CmP.turn {V w w' : World} {Z : Nat → Prop} {H X : Nat} {c : Cfg} {tv : Value} {h : Hs} {x' : Exs} {S S' : Nat → Prop} {sv dv : Value} (h1 : HouP w S V.heap.size H X h.x c tv h.last sv dv h.done) (h2 : SentP w V.heap.size sv h.sent) (h3 : ∀ k, S k → V.heap.size ≤ k ∧ k < w.heap.size) (h4 : ∀ k, sv.ownBlock = some k → ¬ S k ∧ k ≠ H ∧ dv.ownBlock ≠ some k) (h5 : ∀ k, Z k → ¬ S k ∧ k ≠ H ∧ dv.ownBlock ≠ some k ∧ sv.ownBlock ≠ some k) (hz : ∀ k, Z k → k < w.heap.size) (hh : V.heap.size ≤ H) (bel : Below V.heap.size V w)
    (hx : Xec w' S' V.heap.size X x') (hf : Fr S w w') (hs : ∀ k, S' k → (S k ∨ w.heap.size ≤ k) ∧ k < w'.heap.size) : CmP V w' Z H X c tv { h with x := x' } ∧ Kp Z w w' := by
  have hsz := hf.size
  have hbs := bel.size
  refine ⟨⟨⟨S', sv, dv, ⟨(hf.block H h1.blk.lt h1.nh).trans h1.blk, hx, h1.ev.same fun k hk => hf.block k (ownsRow_lt h1.ev hk).2 (h1.nd k hk), fun e => ?_, fun k hk e => ?_, hx.lt.2⟩, h2.same fun k hk => hf.block k (ownsRow_lt h2 hk).2 (h4 k hk).1, fun k hk => ⟨?_, (hs k hk).2⟩, fun k hk => ⟨fun e => ?_, (h4 k hk).2⟩, fun k hk => ⟨fun e => ?_, (h5 k hk).2⟩⟩, fun k hk => by have := hz k hk; omega, hh, bel.trans (hf.below hbs fun k hk => (h3 k hk).1)⟩, fun k hk => hf.block k (hz k hk) (h5 k hk).1⟩
  · rcases (hs H e).1 with e | e
    · exact h1.nh e
    · have := h1.blk.lt; omega
  · rcases (hs k e).1 with e | e
    · exact h1.nd k hk e
    · have := (ownsRow_lt h1.ev hk).2; omega
  · rcases (hs k hk).1 with e | e
    · exact (h3 k e).1
    · omega
  · rcases (hs k e).1 with e | e
    · exact (h4 k hk).1 e
    · have := (ownsRow_lt h2 hk).2; omega
  · rcases (hs k e).1 with e | e
    · exact (h5 k hk).1 e
    · have := hz k hk; omega

theorem CmP.clock {V w : World} {Z : Nat → Prop} {H X : Nat} {c : Cfg} {tv : Value} {h : Hs} (p : CmP V w Z H X c tv h) {N : Int} (hi : ExIn h.x N) :
    Calls Try.prog 14 #[.pointer (some ⟨H, 0, none⟩)] w fun r w' => r = .returned (.int .i64 h.x.clock) ∧ CmP V w' Z H X c tv h ∧ Kp Z w w' := by
  obtain ⟨⟨S, sv, dv, h1, h2, h3, h4, h5⟩, hz, hh, bel⟩ := p
  refine (clock_any S V.heap.size H X N h.x c tv h.last sv dv h.done w h1 hi).mono ?_
  rintro r w' ⟨rfl, p', f'⟩
  exact ⟨rfl, CmP.turn h1 h2 h3 h4 h5 hz hh bel p'.xec (f'.mono fun k _ e => by subst e; exact h1.nx) fun k hk => ⟨.inl hk, by have := (h3 k hk).2; have := f'.size; omega⟩⟩
theorem CmP.counts {V w : World} {Z : Nat → Prop} {H X : Nat} {c : Cfg} {tv : Value} {h : Hs} (p : CmP V w Z H X c tv h) {N : Int} (hi : ExIn h.x N) :
    Calls Try.prog 17 #[.pointer (some ⟨X, 0, none⟩)] w fun r w' => r = .returned (countsV h.x) ∧ CmP V w' Z H X c tv h ∧ Kp Z w w' := by
  obtain ⟨⟨S, sv, dv, h1, h2, h3, h4, h5⟩, hz, hh, bel⟩ := p
  refine (xCounts_any S V.heap.size X N h.x w h1.xec hi).mono ?_
  rintro r w' ⟨rfl, x', f'⟩
  exact ⟨rfl, CmP.turn h1 h2 h3 h4 h5 hz hh bel x' (f'.mono fun k _ e => by subst e; exact h1.nx) fun k hk => ⟨.inl hk, by have := (h3 k hk).2; have := f'.size; omega⟩⟩
theorem CmP.feed {V w : World} {Z : Nat → Prop} {H X : Nat} {c : Cfg} {tv : Value} {h : Hs} (p : CmP V w Z H X c tv h) {N : Int} (hi : ExIn h.x N) (hN : N ≤ 800000000000000) {n t : Int} {bv : Value} {bs : List Int} (hb : ∀ S : Nat → Prop, (∀ k, Z k → ¬ S k) → BytV w S bv bs) (hbl : bs.length ≤ 100000000000) :
    Calls Try.prog 15 #[.pointer (some ⟨X, 0, none⟩), .int .i64 n, .int .i64 t, bv] w fun r w' => r = .returned (.int .i64 (exFeed h.x n t bs).2) ∧ CmP V w' Z H X c tv (h.feed n t bs) ∧ Kp Z w w' := by
  obtain ⟨⟨S, sv, dv, h1, h2, h3, h4, h5⟩, hz, hh, bel⟩ := p
  refine (xFeed_any S V.heap.size X N n t h.x bv bs w h1.xec (hb S fun k hk => (h5 k hk).1) hbl bel.size hi hN).mono ?_
  rintro r w' ⟨rfl, x', f'⟩
  exact ⟨rfl, CmP.turn h1 h2 h3 h4 h5 hz hh bel (x'.mono fun k hk e => (⟨e, hk⟩ : (S k ∨ w.heap.size ≤ k) ∧ k < w'.heap.size)) f' fun k hk => hk⟩
theorem CmP.run {V w : World} {Z : Nat → Prop} {H X : Nat} {c : Cfg} {tv : Value} {h : Hs} (p : CmP V w Z H X c tv h) {N u : Int} (hi : HsIn c N h) (hN : N ≤ 800000000000000) :
    Calls Try.prog 16 #[.pointer (some ⟨H, 0, none⟩), .int .i64 u] w fun r w' => r = .returned (.tuple #[]) ∧ CmP V w' Z H X c tv (h.run u) ∧ Kp Z w w' := by
  have hl := (hi.run u).dl
  have hl2 := (hi.run u).ex.ck1
  simp only [Hs.run, List.length_append] at hl hl2
  obtain ⟨⟨S, sv, dv, h1, h2, h3, h4, h5⟩, hz, hh, bel⟩ := p
  have hbs := bel.size
  refine (hrun_any S V.heap.size H X N u h.x c tv h.last sv dv h.done w h1 hi.ex hN bel.size (by omega)).mono ?_
  rintro r w' ⟨rfl, ⟨S', dv', p', s', o'⟩, f'⟩
  have hsz := f'.size
  refine ⟨rfl, ⟨⟨fun k => S' k ∧ k < w'.heap.size, sv, dv', ⟨p'.blk, p'.xec.mono fun k hk e => ⟨e, hk⟩, p'.ev, fun e => p'.nh e.1, fun k hk e => p'.nd k hk e.1, ⟨p'.nx, p'.xec.lt.1⟩⟩, h2.same fun k hk => f'.block k (ownsRow_lt h2 hk).2 ?_, fun k hk => ⟨?_, hk.2⟩, fun k hk => ⟨fun e => ?_, (h4 k hk).2.1, fun e => ?_⟩, fun k hk => ⟨fun e => ?_, (h5 k hk).2.1, fun e => ?_, (h5 k hk).2.2.2⟩⟩, fun k hk => by have := hz k hk; omega, hh, bel.trans (f'.below hbs ?_)⟩, fun k hk => f'.block k (hz k hk) ?_⟩
  · rintro (e | e | e)
    · exact (h4 k hk).1 e
    · exact (h4 k hk).2.1 e
    · exact (h4 k hk).2.2 e
  · rcases s' k hk.1 with e | e
    · exact (h3 k e).1
    · omega
  · rcases s' k e.1 with e | e
    · exact (h4 k hk).1 e
    · have := (ownsRow_lt h2 hk).2; omega
  · rcases o' with o | ⟨z, o, hz⟩
    · exact (h4 k hk).2.2 (o ▸ e)
    · rw [o] at e; cases e; have := (ownsRow_lt h2 hk).2; omega
  · rcases s' k e.1 with e | e
    · exact (h5 k hk).1 e
    · have := hz k hk; omega
  · rcases o' with o | ⟨z, o, hz'⟩
    · exact (h5 k hk).2.2.1 (o ▸ e)
    · rw [o] at e; cases e; have := hz k hk; omega
  · rintro k (e | e | e)
    · exact (h3 k e).1
    · omega
    · exact (ownsRow_lt h1.ev e).1
  · rintro (e | e | e)
    · exact (h5 k hk).1 e
    · exact (h5 k hk).2.1 e
    · exact (h5 k hk).2.2.1 e
/-- The last tick is stored. -/
theorem CmP.lastly {V w : World} {Z : Nat → Prop} {H X : Nat} {c : Cfg} {tv : Value} {h : Hs} (p : CmP V w Z H X c tv h) (a : Int) : CmP V (w.setCell ⟨H, 7, none⟩ (.int .i64 a)) Z H X c tv { h with last := a } := by
  obtain ⟨⟨S, sv, dv, h1, h2, h3, h4, h5⟩, hz, hh, bel⟩ := p
  have hne : dv.ownBlock ≠ some H := ownsRow_ne_blk h1.ev h1.blk (by decide)
  have hk : ∀ k, k ≠ H → (w.setCell ⟨H, 7, none⟩ (.int .i64 a)).heap[k]? = w.heap[k]? := fun k hk => heap_setCell_other w ⟨H, 7, none⟩ k _ hk
  refine ⟨⟨S, sv, dv, ⟨h1.blk.set 7 _, h1.xec.same fun k e => hk k fun e' => h1.nh (e' ▸ e), h1.ev.same fun k e => hk k fun e' => hne (e' ▸ e), h1.nh, h1.nd, h1.nx⟩, h2.same fun k e => hk k (h4 k e).2.1, fun k e => by have := h3 k e; simpa using this, h4, h5⟩, fun k e => by simpa using hz k e, hh, bel.trans ((Fr.set (X := fun k => k = H) w H 7 _ rfl).below bel.size fun k e => by omega)⟩
/-- What was sent grows by one. -/
theorem CmP.sentBy {V w w' : World} {_Z : Nat → Prop} {H X : Nat} {c : Cfg} {tv : Value} {h : Hs} {S : Nat → Prop} {sv dv sv' : Value} {s : Int × Int} (h1 : HouP w S V.heap.size H X h.x c tv h.last sv dv h.done) (h2 : SentP w V.heap.size sv h.sent) (h3 : ∀ k, S k → V.heap.size ≤ k ∧ k < w.heap.size) (h4 : ∀ k, sv.ownBlock = some k → ¬ S k ∧ k ≠ H ∧ dv.ownBlock ≠ some k) (hh : V.heap.size ≤ H) (bel : Below V.heap.size V w)
    (g1 : SentP w' V.heap.size sv' (h.sent ++ [s])) (g2 : w.grownBy w' sv.ownBlock) (g3 : sv'.ownBlock = sv.ownBlock ∨ sv'.ownBlock = some w.heap.size) : CmP V (w'.setCell ⟨H, 8, none⟩ sv') (fun _ => False) H X c tv { h with sent := h.sent ++ [s] } := by
  have hne : dv.ownBlock ≠ some H := ownsRow_ne_blk h1.ev h1.blk (by decide)
  have hH := h1.blk.lt
  have hsz := g2.size
  have hb : ∀ k, k < w.heap.size → sv.ownBlock ≠ some k → k ≠ H → (w'.setCell ⟨H, 8, none⟩ sv').heap[k]? = w.heap[k]? := fun k hk h1 h2 => (heap_setCell_other w' ⟨H, 8, none⟩ k _ h2).trans (g2.block k hk fun e => h1 e.symm)
  have hB : Blk w' H (hcs c tv X h.last sv dv) 46 := h1.blk.grownRow g2 fun e => (h4 H e).2.1 rfl
  have hS' : ∀ k, sv'.ownBlock = some k → ¬ S k ∧ k ≠ H ∧ dv.ownBlock ≠ some k := fun k hk => by
    rcases g3 with e | e
    · exact h4 k (e ▸ hk)
    · rw [e] at hk
      cases hk
      refine ⟨fun e => ?_, by omega, fun e => ?_⟩
      · have := (h3 _ e).2; omega
      · have := (ownsRow_lt h1.ev e).2; omega
  refine ⟨⟨S, sv', dv, ⟨hB.set 8 _, h1.xec.same fun k e => hb k (h3 k e).2 (fun e' => (h4 k e').1 e) (fun e' => h1.nh (e' ▸ e)), h1.ev.same fun k e => hb k (ownsRow_lt h1.ev e).2 (fun e' => (h4 k e').2.2 e) (fun e' => hne (e' ▸ e)), h1.nh, h1.nd, h1.nx⟩, g1.same fun k e => heap_setCell_other w' ⟨H, 8, none⟩ k _ (hS' k e).2.1, fun k e => ⟨(h3 k e).1, by have := (h3 k e).2; simp; omega⟩, hS', fun k e => e.elim⟩, fun k e => e.elim, hh, ?_⟩
  refine bel.trans (((Fr.of_grown (X := fun k => sv.ownBlock = some k ∨ k = H) g2 fun k e _ => .inl e).trans (Fr.set (X := fun k => k = H) w' H 8 _ rfl) fun k _ e => .inr e).below bel.size ?_)
  rintro k (e | e)
  · exact (ownsRow_lt h2 e).1
  · omega

end Go.Proofs.Ythloffgebebijaa

namespace Go.Proofs.Ythloffgebebijaa
open Go.RowKit Go.MuLone

def oCells (o : Come5) : Array Value := #[.int .i64 o.task, .int .i64 o.gap, .int .i64 o.line, .int .i64 o.cost, .bool o.split]
/-- What soonest is held to. -/
def SoonOk (V : World) (H X : Nat) (c : Cfg) (tv : Value) (k : Int) : Prop :=
  ∀ (w : World) (Z : Nat → Prop) (h : Hs) (t : Int), CmP V w Z H X c tv h → (∀ s ∈ h.sent, 0 ≤ s.2 ∧ s.2 < 900) → h.sent.length ≤ 1000000 → 0 ≤ t → t ≤ 5000 →
    Calls Try.prog 30 #[.pointer (some ⟨H, 0, none⟩), .int .i64 k, .int .i64 t] w fun e w' => e = .returned (.int .i64 (soonI c h.sent k t)) ∧ CmP V w' Z H X c tv h ∧ Kp Z w w'

/-- The house, and the box of what comes. -/
structure CoP (V w : World) (bx H X : Nat) (c : Cfg) (tv : Value) (o : Come5) (h : Hs) : Prop where
  cm : CmP V w (fun k => k = bx) H X c tv h
  bk : Blk w bx (oCells o) 58
theorem CoP.later {V w w' : World} {bx H X : Nat} {c : Cfg} {tv : Value} {o : Come5} {h : Hs} (p : CoP V w bx H X c tv o h) (hb : Below w.heap.size w w') : CoP V w' bx H X c tv o h := ⟨p.cm.later hb, p.bk.later hb p.bk.lt⟩
theorem CoP.quiet {V w : World} {bx H X : Nat} {c : Cfg} {tv : Value} {o : Come5} {h : Hs} (p : CoP V w bx H X c tv o h) (n : Nat) : CoP V (w.drewN n) bx H X c tv o h := p.later (below_drewN (Below.refl _ _) n)
theorem CoP.kept {V w w' : World} {bx H X : Nat} {c : Cfg} {tv : Value} {o : Come5} {h h' : Hs} (p : CoP V w bx H X c tv o h) (q : CmP V w' (fun k => k = bx) H X c tv h') (k : Kp (fun k => k = bx) w w') : CoP V w' bx H X c tv o h' := ⟨q, (k bx rfl).trans p.bk⟩
theorem CoP.cells {V w : World} {bx H X : Nat} {c : Cfg} {tv : Value} {o : Come5} {h : Hs} (p : CoP V w bx H X c tv o h) : (H < w.heap.size ∧ w.cell? ⟨H, 0, none⟩ = some (.int .i64 c.lines) ∧ w.cell? ⟨H, 5, none⟩ = some tv ∧ w.cell? ⟨H, 6, none⟩ = some (.pointer (some ⟨X, 0, none⟩)) ∧ w.cell? ⟨H, 7, none⟩ = some (.int .i64 h.last)) ∧ bx < w.heap.size ∧ w.cell? ⟨bx, 0, none⟩ = some (.int .i64 o.task) ∧ w.cell? ⟨bx, 1, none⟩ = some (.int .i64 o.gap) ∧ w.cell? ⟨bx, 2, none⟩ = some (.int .i64 o.line) ∧ w.cell? ⟨bx, 3, none⟩ = some (.int .i64 o.cost) ∧ w.cell? ⟨bx, 4, none⟩ = some (.bool o.split) :=
  ⟨p.cm.cells, p.bk.lt, p.bk.cell 0, p.bk.cell 1, p.bk.cell 2, p.bk.cell 3, p.bk.cell 4⟩
theorem CoP.clock {V w : World} {bx H X : Nat} {c : Cfg} {tv : Value} {o : Come5} {h : Hs} (p : CoP V w bx H X c tv o h) {N : Int} (hi : HsIn c N h) :
    Calls Try.prog 14 #[.pointer (some ⟨H, 0, none⟩)] w fun r w' => r = .returned (.int .i64 h.x.clock) ∧ CoP V w' bx H X c tv o h :=
  (p.cm.clock hi.ex).mono fun _ _ ⟨e, q, k⟩ => ⟨e, p.kept q k⟩
theorem CoP.counts {V w : World} {bx H X : Nat} {c : Cfg} {tv : Value} {o : Come5} {h : Hs} (p : CoP V w bx H X c tv o h) {N : Int} (hi : HsIn c N h) :
    Calls Try.prog 17 #[.pointer (some ⟨X, 0, none⟩)] w fun r w' => r = .returned (countsV h.x) ∧ CoP V w' bx H X c tv o h :=
  (p.cm.counts hi.ex).mono fun _ _ ⟨e, q, k⟩ => ⟨e, p.kept q k⟩
theorem CoP.run {V w : World} {bx H X : Nat} {c : Cfg} {tv : Value} {o : Come5} {h : Hs} (p : CoP V w bx H X c tv o h) {N u : Int} (hi : HsIn c N h) (hN : N ≤ 700000000000000) :
    Calls Try.prog 16 #[.pointer (some ⟨H, 0, none⟩), .int .i64 u] w fun r w' => r = .returned (.tuple #[]) ∧ CoP V w' bx H X c tv o (h.run u) :=
  (p.cm.run hi (by omega)).mono fun _ _ ⟨e, q, k⟩ => ⟨e, p.kept q k⟩
theorem CoP.soon {V w : World} {bx H X : Nat} {c : Cfg} {tv : Value} {o : Come5} {h : Hs} (p : CoP V w bx H X c tv o h) {N k t : Int} (hi : HsIn c N h) (hS : SoonOk V H X c tv k) (hl : h.sent.length ≤ 1000000) (h0 : 0 ≤ t) (h1 : t ≤ 5000) :
    Calls Try.prog 30 #[.pointer (some ⟨H, 0, none⟩), .int .i64 k, .int .i64 t] w fun r w' => r = .returned (.int .i64 (soonI c h.sent k t)) ∧ CoP V w' bx H X c tv o h :=
  (hS w _ h t p.cm hi.st hl h0 h1).mono fun _ _ ⟨e, q, k⟩ => ⟨e, p.kept q k⟩

/-- The message's bytes beside it. -/
structure CoM (V w : World) (bx g H X : Nat) (c : Cfg) (tv : Value) (o : Come5) (bs : List Int) (h : Hs) : Prop where
  cm : CmP V w (fun k => k = bx ∨ k = g) H X c tv h
  bk : Blk w bx (oCells o) 58
  bg : Blk w g (bs.map (Value.int .u8)).toArray 5
theorem CoP.message {V w w' : World} {bx g H X : Nat} {c : Cfg} {tv : Value} {o : Come5} {bs : List Int} {h : Hs} (p : CoP V w bx H X c tv o h) (hb : Below w.heap.size w w') (h0 : w.heap.size ≤ g) (hg : Blk w' g (bs.map (Value.int .u8)).toArray 5) : CoM V w' bx g H X c tv o bs h := ⟨p.cm.beside hb h0 hg.lt, p.bk.later hb p.bk.lt, hg⟩
theorem CoM.cells {V w : World} {bx g H X : Nat} {c : Cfg} {tv : Value} {o : Come5} {bs : List Int} {h : Hs} (p : CoM V w bx g H X c tv o bs h) : (H < w.heap.size ∧ w.cell? ⟨H, 0, none⟩ = some (.int .i64 c.lines) ∧ w.cell? ⟨H, 5, none⟩ = some tv ∧ w.cell? ⟨H, 6, none⟩ = some (.pointer (some ⟨X, 0, none⟩)) ∧ w.cell? ⟨H, 7, none⟩ = some (.int .i64 h.last)) ∧ bx < w.heap.size ∧ g < w.heap.size ∧ w.cell? ⟨bx, 4, none⟩ = some (.bool o.split) := ⟨p.cm.cells, p.bk.lt, p.bg.lt, p.bk.cell 4⟩
theorem CoM.later {V w w' : World} {bx g H X : Nat} {c : Cfg} {tv : Value} {o : Come5} {bs : List Int} {h : Hs} (p : CoM V w bx g H X c tv o bs h) (hb : Below w.heap.size w w') : CoM V w' bx g H X c tv o bs h := ⟨p.cm.later hb, p.bk.later hb p.bk.lt, p.bg.later hb p.bg.lt⟩
theorem CoM.clock {V w : World} {bx g H X : Nat} {c : Cfg} {tv : Value} {o : Come5} {bs : List Int} {h : Hs} (p : CoM V w bx g H X c tv o bs h) {N : Int} (hi : HsIn c N h) :
    Calls Try.prog 14 #[.pointer (some ⟨H, 0, none⟩)] w fun r w' => r = .returned (.int .i64 h.x.clock) ∧ CoM V w' bx g H X c tv o bs h :=
  (p.cm.clock hi.ex).mono fun _ _ ⟨e, q, k⟩ => ⟨e, q, (k bx (.inl rfl)).trans p.bk, (k g (.inr rfl)).trans p.bg⟩
/-- A part of the bytes, from the place i on. -/
theorem CoM.feed {V w : World} {bx g H X : Nat} {c : Cfg} {tv : Value} {o : Come5} {bs : List Int} {h : Hs} (p : CoM V w bx g H X c tv o bs h) {N n t : Int} (hi : ExIn h.x N) (hN : N ≤ 700000000000000) (i m cap : Nat) (hm : m ≤ cap) (hl : i + m ≤ bs.length) (hs : bs.length ≤ 100) :
    Calls Try.prog 15 #[.pointer (some ⟨X, 0, none⟩), .int .i64 n, .int .i64 t, .slice (some ⟨g, i, none⟩) m cap] w fun r w' => r = .returned (.int .i64 (exFeed h.x n t ((bs.drop i).take m)).2) ∧ CoM V w' bx g H X c tv o bs (h.feed n t ((bs.drop i).take m)) := by
  have hlen : ((bs.drop i).take m).length = m := by rw [List.length_take, List.length_drop]; omega
  refine (p.cm.feed hi (by omega) (n := n) (t := t) (bv := .slice (some ⟨g, i, none⟩) m cap) (bs := (bs.drop i).take m) ?_ (by omega)).mono fun _ _ ⟨e, q, k⟩ => ⟨e, q, (k bx (.inl rfl)).trans p.bk, (k g (.inr rfl)).trans p.bg⟩
  intro S hS
  refine ⟨some ⟨g, i, none⟩, cap, by rw [hlen], by omega, .inr ⟨g, i, rfl, p.bg.lt, hS g (.inr rfl), fun j x hj => ?_⟩⟩
  have hjm : j < m := by have := lt_of_get hj; omega
  rw [List.getElem?_take_of_lt hjm, List.getElem?_drop] at hj
  rw [p.bg.cell (i + j)]
  simp [hj]

end Go.Proofs.Ythloffgebebijaa
