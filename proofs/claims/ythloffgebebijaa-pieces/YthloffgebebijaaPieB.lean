/- PieB: houses side by side: each in a set of blocks of its own; what a call of one leaves. -/
import Derived.Test.YthloffgebebijaaHouC
import Derived.Test.YthloffgebebijaaPieA
namespace Go.Proofs.Ythloffgebebijaa
open Go.RowKit Go.MuLone

/-- A house in memory, all its blocks in O. -/
def Hou1 (w : World) (O : Nat → Prop) (base H X : Nat) (x : Exs) (c : Cfg) (tv : Value) (done : List Ev) : Prop :=
  ∃ S dv, HouP w S base H X x c tv 0 (.slice none 0 0) dv done ∧ ∀ k, S k ∨ k = H ∨ dv.ownBlock = some k → O k ∧ k < w.heap.size

theorem Hou1.same {w w' : World} {O : Nat → Prop} {base H X : Nat} {x : Exs} {c : Cfg} {tv : Value} {done : List Ev} (h : Hou1 w O base H X x c tv done) (hk : ∀ k, O k → k < w.heap.size → w'.heap[k]? = w.heap[k]?) (hz : w.heap.size ≤ w'.heap.size) : Hou1 w' O base H X x c tv done := by
  obtain ⟨S, dv, p, ho⟩ := h
  refine ⟨S, dv, ⟨?_, ?_, ?_, p.nh, p.nd, p.nx⟩, fun k e => ⟨(ho k e).1, Nat.lt_of_lt_of_le (ho k e).2 hz⟩⟩
  · have := ho H (.inr (.inl rfl))
    exact (hk H this.1 this.2).trans p.blk
  · exact p.xec.same fun k e => by have := ho k (.inl e); exact hk k this.1 this.2
  · exact p.ev.same fun k e => by have := ho k (.inr (.inr e)); exact hk k this.1 this.2
theorem Hou1.mono {w : World} {O O' : Nat → Prop} {base H X : Nat} {x : Exs} {c : Cfg} {tv : Value} {done : List Ev} (h : Hou1 w O base H X x c tv done) (hk : ∀ k, k < w.heap.size → O k → O' k) : Hou1 w O' base H X x c tv done := by
  obtain ⟨S, dv, p, ho⟩ := h
  exact ⟨S, dv, p, fun k e => ⟨hk k (ho k e).2 (ho k e).1, (ho k e).2⟩⟩
theorem Hou1.later {w w' : World} {O : Nat → Prop} {base H X : Nat} {x : Exs} {c : Cfg} {tv : Value} {done : List Ev} (h : Hou1 w O base H X x c tv done) (hb : Below w.heap.size w w') : Hou1 w' O base H X x c tv done := h.same (fun k _ hk => hb.block k hk) hb.size
theorem Hou1.lt {w : World} {O : Nat → Prop} {base H X : Nat} {x : Exs} {c : Cfg} {tv : Value} {done : List Ev} (h : Hou1 w O base H X x c tv done) : H < w.heap.size ∧ w.cell? ⟨H, 6, none⟩ = some (.pointer (some ⟨X, 0, none⟩)) := by
  obtain ⟨S, dv, p, ho⟩ := h
  exact ⟨p.blk.lt, p.blk.cell 6⟩
/-- Two houses, of which one turns. -/
theorem Hou1.beside {w w' : World} {O O' : Nat → Prop} {base H X : Nat} {x : Exs} {c : Cfg} {tv : Value} {done : List Ev} (h : Hou1 w O base H X x c tv done) (hf : Fr O' w w') (hd : ∀ k, O k → ¬ O' k) : Hou1 w' O base H X x c tv done := h.same (fun k hk hl => hf.block k hl (hd k hk)) hf.size

theorem clock1_any (O : Nat → Prop) (base H X : Nat) (N : Int) (x : Exs) (c : Cfg) (tv : Value) (done : List Ev) (w : World) (h : Hou1 w O base H X x c tv done) (hi : ExIn x N) :
    Calls Try.prog 14 #[.pointer (some ⟨H, 0, none⟩)] w fun e w' => e = .returned (.int .i64 x.clock) ∧ Hou1 w' O base H X x c tv done ∧ Fr O w w' := by
  obtain ⟨S, dv, p, ho⟩ := h
  refine (clock_any S base H X N x c tv 0 _ dv done w p hi).mono ?_
  rintro e w' ⟨rfl, p', f'⟩
  exact ⟨rfl, ⟨S, dv, p', fun k e => ⟨(ho k e).1, Nat.lt_of_lt_of_le (ho k e).2 f'.size⟩⟩, f'.mono fun k _ e => by subst e; exact (ho k (.inl p.nx)).1⟩
theorem run1_any (O : Nat → Prop) (base H X : Nat) (N u : Int) (x : Exs) (c : Cfg) (tv : Value) (done : List Ev) (w : World) (h : Hou1 w O base H X x c tv done) (hi : ExIn x N) (hbase : base ≤ w.heap.size) (hlen : done.length + (exRun u 3000 x).2.length ≤ 900000000) :
    Calls Try.prog 16 #[.pointer (some ⟨H, 0, none⟩), .int .i64 u] w fun e w' => e = .returned (.tuple #[]) ∧ Hou1 w' (fun k => O k ∨ w.heap.size ≤ k) base H X (exRun u 3000 x).1 c tv (done ++ (exRun u 3000 x).2) ∧ Fr O w w' := by
  obtain ⟨S, dv, p, ho⟩ := h
  refine (hrun_any S base H X N u x c tv 0 _ dv done w p hi hbase hlen).mono ?_
  rintro e w' ⟨rfl, ⟨S', dv', p', s', o'⟩, f'⟩
  have hz := f'.size
  refine ⟨rfl, ⟨fun k => S' k ∧ k < w'.heap.size, dv', ⟨p'.blk, p'.xec.mono fun k hk e => ⟨e, hk⟩, p'.ev, fun e => p'.nh e.1, fun k hk e => p'.nd k hk e.1, ⟨p'.nx, p'.xec.lt.1⟩⟩, ?_⟩, f'.mono fun k hk e => ?_⟩
  · rintro k (e | e | e)
    · exact ⟨(s' k e.1).imp (fun e => (ho k (.inl e)).1) id, e.2⟩
    · subst e; exact ⟨.inl (ho k (.inr (.inl rfl))).1, p'.blk.lt⟩
    · refine ⟨?_, (ownsRow_lt p'.ev e).2⟩
      rcases o' with o | ⟨z, o, hz⟩
      · exact .inl (ho k (.inr (.inr (o ▸ e)))).1
      · rw [o] at e; cases e; exact .inr hz
  · exact (ho k e).1
theorem feed1_any (O : Nat → Prop) (base H X : Nat) (N n t : Int) (x : Exs) (c : Cfg) (tv bv : Value) (done : List Ev) (bs : List Int) (w : World) (h : Hou1 w O base H X x c tv done) (hb : BytV w O bv bs) (hbl : bs.length ≤ 140737488355328) (hbase : base ≤ w.heap.size) (hi : ExIn x N) :
    Calls Try.prog 15 #[.pointer (some ⟨X, 0, none⟩), .int .i64 n, .int .i64 t, bv] w fun e w' => e = .returned (.int .i64 (exFeed x n t bs).2) ∧ Hou1 w' (fun k => O k ∨ w.heap.size ≤ k) base H X (exFeed x n t bs).1 c tv done ∧ Fr O w w' := by
  obtain ⟨S, dv, p, ho⟩ := h
  refine (xFeed_any S base X N n t x bv bs w p.xec (hb.mono fun k e => (ho k (.inl e)).1) hbl hbase hi).mono ?_
  rintro e w' ⟨rfl, x', f'⟩
  have hz := f'.size
  have hS : ∀ k, S k → k < w.heap.size := fun k e => (ho k (.inl e)).2
  have x2 : Xec w' (fun k => (S k ∨ w.heap.size ≤ k) ∧ k < w'.heap.size) base X (exFeed x n t bs).1 := x'.mono fun k hk e => ⟨e, hk⟩
  refine ⟨rfl, ⟨_, dv, ⟨(f'.block H p.blk.lt p.nh).trans p.blk, x2, p.ev.same fun k hk => f'.block k (ownsRow_lt p.ev hk).2 (p.nd k hk), ?_, ?_, x2.lt.2⟩, ?_⟩, f'.mono fun k _ e => (ho k (.inl e)).1⟩
  · rintro ⟨e | e, _⟩
    · exact p.nh e
    · have := p.blk.lt; omega
  · rintro k hk ⟨e | e, _⟩
    · exact p.nd k hk e
    · have := (ownsRow_lt p.ev hk).2; omega
  · rintro k (e | e | e)
    · exact ⟨e.1.imp (fun e => (ho k (.inl e)).1) id, e.2⟩
    · exact ⟨.inl (ho k (.inr (.inl e))).1, by have := (ho k (.inr (.inl e))).2; omega⟩
    · exact ⟨.inl (ho k (.inr (.inr e))).1, by have := (ho k (.inr (.inr e))).2; omega⟩
theorem counts1_any (O : Nat → Prop) (base H X : Nat) (N : Int) (x : Exs) (c : Cfg) (tv : Value) (done : List Ev) (w : World) (h : Hou1 w O base H X x c tv done) (hi : ExIn x N) :
    Calls Try.prog 17 #[.pointer (some ⟨X, 0, none⟩)] w fun e w' => e = .returned (countsV x) ∧ Hou1 w' O base H X x c tv done ∧ Fr O w w' := by
  obtain ⟨S, dv, p, ho⟩ := h
  refine (xCounts_any S base X N x w p.xec hi).mono ?_
  rintro e w' ⟨rfl, x', f'⟩
  have hHX : H ≠ X := fun e => p.nh (e ▸ p.nx)
  refine ⟨rfl, ⟨S, dv, ⟨(f'.block H p.blk.lt hHX).trans p.blk, x', p.ev.same fun k hk => f'.block k (ownsRow_lt p.ev hk).2 (fun e => p.nd k hk (e ▸ p.nx)), p.nh, p.nd, p.nx⟩, fun k e => ⟨(ho k e).1, Nat.lt_of_lt_of_le (ho k e).2 f'.size⟩⟩, f'.mono fun k _ e => by subst e; exact (ho k (.inl p.nx)).1⟩
theorem opened1 {w w' : World} {S : Nat → Prop} {base H X : Nat} {x : Exs} {c : Cfg} {tv dv : Value} {done : List Ev} (p : HouP w' S base H X x c tv 0 (.slice none 0 0) dv done) (hs : ∀ k, S k → w.heap.size ≤ k) (hH : w.heap.size ≤ H) (hd : dv = .slice none 0 0) : Hou1 w' (fun k => w.heap.size ≤ k ∧ k < w'.heap.size) base H X x c tv done := by
  subst hd
  refine ⟨fun k => S k ∧ k < w'.heap.size, _, ⟨p.blk, p.xec.mono fun k hk e => ⟨e, hk⟩, p.ev, fun e => p.nh e.1, fun k hk e => p.nd k hk e.1, ⟨p.nx, p.xec.lt.1⟩⟩, ?_⟩
  rintro k (e | e | e)
  · exact ⟨⟨hs k e.1, e.2⟩, e.2⟩
  · subst e; exact ⟨⟨hH, p.blk.lt⟩, p.blk.lt⟩
  · simp [Value.ownBlock] at e

end Go.Proofs.Ythloffgebebijaa
