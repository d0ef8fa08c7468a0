/- RndA: an executive's block of cells; the walk of package rounds' event. -/
import Derived.Test.YthloffgebebijaaLineK
import Derived.Test.YthloffgebebijaaJobsK
namespace Go.Proofs.Ythloffgebebijaa
open Go.RowKit

/-- The cells of an executive: its lock, the configuration's numbers, the dues, the lines, the queue, when it was fed last, the counts. -/
def xcs (mu : Int) (dv lv qv : Value) (c : Cfg) (fed clock : Int) (ct : Ct) : Array Value :=
  #[.int .i32 mu, .int .u32 0, .int .i64 c.room, .int .i64 c.poll, .int .i64 c.idle, .int .i64 c.sw, dv, lv, qv, .int .i64 fed, .int .i64 clock, .int .i64 ct.jobs, .int .i64 ct.done, .int .i64 0, .int .i64 ct.lost, .int .i64 ct.unknown, .int .i64 ct.bad, .int .i64 ct.spilled, .int .i64 0]

theorem ownsRow_ne_blk {w : World} {base X n size : Nat} {e t : TypeId} {v : Value} {xs : List Value} {cs : Array Value} (h : w.ownsRow base e size v n xs) (hB : Blk w X cs t) (hte : t ≠ e) : v.ownBlock ≠ some X := fun he => by
  rcases h.2 with ⟨e1, _⟩ | ⟨g, cap, cur, e1, _, hh, _⟩
  · rw [e1] at he; simp [Value.ownBlock] at he
  · rw [e1] at he; simp only [Value.ownBlock, Option.some.injEq] at he
    subst he
    exact hte (Blk.inj hB hh).2
theorem ownsRow_blk {w : World} {base k n size : Nat} {e : TypeId} {v : Value} {xs : List Value} (h : w.ownsRow base e size v n xs) (hk : v.ownBlock = some k) : ∃ cur, Blk w k cur e := by
  rcases h.2 with ⟨e1, _⟩ | ⟨g, cap, cur, e1, _, hh, _⟩
  · rw [e1] at hk; simp [Value.ownBlock] at hk
  · rw [e1] at hk; simp only [Value.ownBlock, Option.some.injEq] at hk
    subst hk
    exact ⟨cur, hh⟩
theorem ownsRow_ne {w : World} {b1 b2 n1 n2 s1 s2 : Nat} {e1 e2 : TypeId} {v1 v2 : Value} {x1 x2 : List Value} (h1 : w.ownsRow b1 e1 s1 v1 n1 x1) (h2 : w.ownsRow b2 e2 s2 v2 n2 x2) (hne : e1 ≠ e2) {k : Nat} (hk : v1.ownBlock = some k) : v2.ownBlock ≠ some k := by
  obtain ⟨cur, hb⟩ := ownsRow_blk h1 hk
  exact ownsRow_ne_blk h2 hb hne

def dueRow (c : Cfg) : List Value := c.tasks.map fun t => .int .i64 t.due
/-- What the reading of a message needs: the block, the queue, the dues. -/
structure CoreP (w : World) (base X : Nat) (mu : Int) (dv lv qv : Value) (hs : List Jb) (c : Cfg) (fed clock : Int) (ct : Ct) : Prop where
  q : QueP w base X 8 (xcs mu dv lv qv c fed clock ct) 98 qv hs
  d : w.ownsRow base 3 1 dv c.tasks.length (dueRow c)

theorem CoreP.same {w w' : World} {base X : Nat} {mu : Int} {dv lv qv : Value} {hs : List Jb} {c : Cfg} {fed clock : Int} {ct : Ct} (h : CoreP w base X mu dv lv qv hs c fed clock ct) (hk : ∀ k, k = X ∨ qv.ownBlock = some k ∨ dv.ownBlock = some k → w'.heap[k]? = w.heap[k]?) : CoreP w' base X mu dv lv qv hs c fed clock ct :=
  ⟨h.q.same fun k e => hk k (e.imp id .inl), ownsRow_same h.d fun k e => hk k (.inr (.inr e))⟩
theorem CoreP.later {w w' : World} {base X : Nat} {mu : Int} {dv lv qv : Value} {hs : List Jb} {c : Cfg} {fed clock : Int} {ct : Ct} (h : CoreP w base X mu dv lv qv hs c fed clock ct) (hb : Below w.heap.size w w') : CoreP w' base X mu dv lv qv hs c fed clock ct :=
  h.same fun k hk => hb.block k (by
    rcases hk with rfl | e | e
    · exact h.q.blk.lt
    · exact (ownsRow_lt h.q.row e).2
    · exact (ownsRow_lt h.d e).2)
/-- The counts turn: a store into the block. -/
theorem CoreP.count {w : World} {base X : Nat} {mu : Int} {dv lv qv : Value} {hs : List Jb} {c : Cfg} {fed clock clock' : Int} {ct ct' : Ct} (h : CoreP w base X mu dv lv qv hs c fed clock ct) (o : Nat) (u : Value) (he : (xcs mu dv lv qv c fed clock ct).setIfInBounds o u = xcs mu dv lv qv c fed clock' ct') : CoreP (w.setCell ⟨X, o, none⟩ u) base X mu dv lv qv hs c fed clock' ct' := by
  have hd : dv.ownBlock ≠ some X := ownsRow_ne_blk h.d h.q.blk (by decide)
  refine ⟨⟨he ▸ h.q.blk.set o u, rfl, h.q.row.same fun k e => heap_setCell_other w ⟨X, o, none⟩ k _ (fun e' => h.q.ne (by rw [e, e'])), h.q.ne, h.q.heap⟩, ownsRow_same h.d fun k e => heap_setCell_other w ⟨X, o, none⟩ k _ (fun e' => hd (by rw [e, e']))⟩

def evCells (e : Ev) : List Value := [.int .i64 e.kind, .int .i64 e.tick, .int .i64 e.job, .int .i64 e.task, .int .i64 e.deadline]
def erow (es : List Ev) : List Value := (es.map evCells).flatten
theorem erow_append (a b : List Ev) : erow (a ++ b) = erow a ++ erow b := by simp [erow]
/-- Events, in a row of the call's own. -/
def EvP (w : World) (base : Nat) (v : Value) (es : List Ev) : Prop := w.ownsRow base 53 5 v es.length (erow es)
theorem EvP.later {w w' : World} {base : Nat} {v : Value} {es : List Ev} (h : EvP w base v es) (hb : Below w.heap.size w w') : EvP w' base v es := ownsRow_same h fun k hk => hb.block k (ownsRow_lt h hk).2
theorem EvP.same {w w' : World} {base : Nat} {v : Value} {es : List Ev} (h : EvP w base v es) (hs : ∀ k, v.ownBlock = some k → w'.heap[k]? = w.heap[k]?) : EvP w' base v es := ownsRow_same h hs

theorem info_ev : (Try.prog.info? 53).map (fun i => (i.zero, i.size, i.bytes)) = some (some (.agg #[.int .i64 0, .int .i64 0, .int .i64 0, .int .i64 0, .int .i64 0]), 5, 40) := by kernel_rfl
theorem wpList_appEv {w : World} {ops : Array Oper} {rest : List Oper} {o : Oper} {a : Act} {Q : Exit → Act → World → Prop} (hgd : o.guard = none) (s x : Operand)
    (ho : o.op = .call { callee := .builtin .append, args := #[s, x], argTypes := #[44, 44] })
    (base : Nat) (v : Value) (l : List Ev) (f : Ev) (hs : a.eval s = v) (hown : EvP w base v l) (ad : Addr) (c : Nat) (hx : a.eval x = .slice (some ad) 1 c) (hnews : ∀ j u, (evCells f)[j]? = some u → w.cell? (ad.add j) = some u) (hlen : l.length ≤ 1000000000) (hbase : base ≤ w.heap.size)
    (h : ∀ v' w', EvP w' base v' (l ++ [f]) → w.grownBy w' v.ownBlock → (v'.ownBlock = v.ownBlock ∨ v'.ownBlock = some w.heap.size) → wpList Try.prog ops Q rest (a.put o.dst v') w') :
    wpList Try.prog ops Q (o :: rest) a w := by
  obtain ⟨i0, hi0, hz0, hz1, hz2⟩ := info_parts info_ev
  refine wpList_append_own_at _ hgd s x 44 ho base 53 i0 (.agg #[.int .i64 0, .int .i64 0, .int .i64 0, .int .i64 0, .int .i64 0]) 5 40 Try.underlying44 hi0 hz0 hz1 hz2 rfl (by decide) v l.length (erow l) hs hown ad 1 c (evCells f) hx rfl hnews ?_ (by unfold maxLen; omega) (by omega) hbase ?_
  · intro u hu
    simp only [evCells, List.mem_cons, List.not_mem_nil, or_false] at hu
    rcases hu with rfl | rfl | rfl | rfl | rfl <;> rfl
  · intro v' w' o1 g1 _ l1
    refine h v' w' ?_ g1 l1
    unfold EvP
    rw [erow_append, List.length_append]
    have e : erow [f] = evCells f := by simp [erow]
    rw [e]
    exact o1

set_option maxRecDepth 100000 in
set_option maxHeartbeats 1600000 in
theorem event_any (X : Nat) (kind : Int) (j : Jb) (clock : Int) (w : World) (hc : w.cell? ⟨X, 10, none⟩ = some (.int .i64 clock)) (hX : X < w.heap.size) :
    Calls Try.prog 79 #[.pointer (some ⟨X, 2, none⟩), .int .i64 kind, jobV j] w fun e w' => e = .returned (.agg #[.int .i64 kind, .int .i64 clock, .int .i64 j.number, .int .i64 j.task, .int .i64 j.deadline]) ∧ Below w.heap.size w w' := by
  obtain ⟨jn, jt, jd, jc⟩ := j
  simp only [jobV]
  go_enter Try.func79, Try.ntmps79
  go_wp2_with fail
  apply wp_once
  case h =>
    go_region
    all_goals exact ⟨rfl, rfl⟩
  repeat (first | go_values | go_skip | go_guarded | go_step | go_upon)
  exact bodyPost_ret (v := .agg #[.int .i64 kind, .int .i64 clock, .int .i64 jn, .int .i64 jt, .int .i64 jd]) (by simp [results, Try.results79, go_sem]) rfl ⟨rfl, (((Below.refl _ _).alloc (Nat.le_refl _) _).alloc (by simp) _).drew⟩

end Go.Proofs.Ythloffgebebijaa
