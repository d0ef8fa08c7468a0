/- HouA: a house of tillerkeep in memory; the walks of its clock and run. -/
import Derived.Test.YthloffgebebijaaRndJ
import Derived.Laws.AppendOwnNone
import Derived.Deep.RegionLawGrows
namespace Go.Proofs.Ythloffgebebijaa
open Go.RowKit Go.MuLone

/-- The cells of a house. -/
def hcs (c : Cfg) (tv : Value) (X : Nat) (last : Int) (sv dv : Value) : Array Value :=
  #[.int .i64 c.lines, .int .i64 c.room, .int .i64 c.poll, .int .i64 c.idle, .int .i64 c.sw, tv, .pointer (some ⟨X, 0, none⟩), .int .i64 last, sv, dv]
/-- The house in memory: its block, its executive (in S), what was done. -/
structure HouP (w : World) (S : Nat → Prop) (base H X : Nat) (x : Exs) (c : Cfg) (tv : Value) (last : Int) (sv dv : Value) (done : List Ev) : Prop where
  blk : Blk w H (hcs c tv X last sv dv) 46
  xec : Xec w S base X x
  ev : EvP w base dv done
  nh : ¬ S H
  nd : ∀ k, dv.ownBlock = some k → ¬ S k
  nx : S X

theorem Xec.lt {w : World} {S : Nat → Prop} {base X : Nat} {x : Exs} (h : Xec w S base X x) : X < w.heap.size ∧ S X := by
  obtain ⟨dv, qv, L, vs, hs, h⟩ := h
  exact ⟨h.core.q.blk.lt, h.sx⟩

theorem Xec.lower {w : World} {S : Nat → Prop} {base base' X : Nat} {x : Exs} (h : Xec w S base X x) (hb : base' ≤ base) : Xec w S base' X x := by
  obtain ⟨dv, qv, L, vs, hs, h⟩ := h
  exact ⟨dv, qv, L, vs, hs, ⟨⟨h.core.q.blk, h.core.q.at_, ownsRow_lower h.core.q.row hb, h.core.q.ne, h.core.q.heap⟩, ownsRow_lower h.core.d hb⟩, h.perm, ⟨h.lines.blk, h.lines.len, fun i v l hv hl => ownsRow_lower (h.lines.row i v l hv hl) hb, h.lines.apart⟩, h.sx, h.sl, h.sd, h.sq, h.sv⟩
theorem Xec.later {w w' : World} {S : Nat → Prop} {base X : Nat} {x : Exs} (h : Xec w S base X x) (hb : Below w.heap.size w w') : Xec w' S base X x := by
  have h1 : Xec w (fun k => S k ∧ k < w.heap.size) base X x := h.mono fun k hk e => ⟨e, hk⟩
  exact (h1.same fun k hk => hb.block k hk.2).mono fun k _ e => e.1
theorem HouP.later {w w' : World} {S : Nat → Prop} {base H X : Nat} {x : Exs} {c : Cfg} {tv : Value} {last : Int} {sv dv : Value} {done : List Ev} (h : HouP w S base H X x c tv last sv dv done) (hb : Below w.heap.size w w') : HouP w' S base H X x c tv last sv dv done :=
  ⟨h.blk.later hb h.blk.lt, h.xec.later hb, h.ev.later hb, h.nh, h.nd, h.nx⟩

set_option maxRecDepth 100000 in
set_option maxHeartbeats 1600000 in
theorem clock_any (S : Nat → Prop) (base H X : Nat) (N : Int) (x : Exs) (c : Cfg) (tv : Value) (last : Int) (sv dv : Value) (done : List Ev) (w : World) (h : HouP w S base H X x c tv last sv dv done) (hi : ExIn x N) :
    Calls Try.prog 14 #[.pointer (some ⟨H, 0, none⟩)] w fun e w' => e = .returned (.int .i64 x.clock) ∧ HouP w' S base H X x c tv last sv dv done ∧ Fr (fun k => k = X) w w' := by
  have HH := hide h
  have hH := h.blk.lt
  have h6 : w.cell? ⟨H, 6, none⟩ = some (.pointer (some ⟨X, 0, none⟩)) := h.blk.cell 6
  have HC := hide (xCounts_any S base X N x w h.xec hi)
  clear h
  go_enter Try.func14, Try.ntmps14
  go_wp2_with fail
  refine HC.out.mono ?_
  rintro e w1 ⟨rfl, x1, f1⟩
  have hHX : H ≠ X := fun e => HH.out.nh (e ▸ HH.out.nx)
  have hP : HouP w1 S base H X x c tv last sv dv done := ⟨(f1.block H hH hHX).trans HH.out.blk, x1, HH.out.ev.same fun k hk => f1.block k (ownsRow_lt HH.out.ev hk).2 (fun e => HH.out.nd k hk (e ▸ HH.out.nx)), HH.out.nh, HH.out.nd, HH.out.nx⟩
  have hz1 := f1.size
  have HP := hide hP
  have HF := hide f1
  clear x1 f1 hP
  simp only [countsV]
  generalize held x.lines = hd
  go_wp2
  go_ret
  have hb : Below w1.heap.size w1 (w1.alloc (.cells #[.int .i64 x.clock, .int .i64 x.ct.jobs, .int .i64 x.ct.done, .int .i64 x.jobs.length, .int .i64 x.ct.lost, .int .i64 x.ct.unknown, .int .i64 x.ct.bad, .int .i64 x.ct.spilled, .int .i64 hd] 50)) := (Below.refl _ _).alloc (Nat.le_refl _) _
  exact ⟨rfl, HP.out.later hb, HF.out.then_below hb⟩

/-- The events of a row, appended to another of the call's own. -/
theorem wp_appEvs {o : Oper} {a : Act} {w : World} {K : Act → World → Prop} {Q : Exit → Act → World → Prop} (s x : Operand)
    (ho : o.op = .call { callee := .builtin .append, args := #[s, x], argTypes := #[44, 44] })
    (base b2 : Nat) (v u : Value) (l l2 : List Ev) (hs : a.eval s = v) (hown : EvP w base v l) (hx : a.eval x = u) (hu : EvP w b2 u l2) (hlen : l.length + l2.length ≤ 1000000000) (hbase : base ≤ w.heap.size)
    (h : ∀ v' w', EvP w' base v' (l ++ l2) → w.grownBy w' v.ownBlock → (v'.ownBlock = v.ownBlock ∨ v'.ownBlock = some w.heap.size) → K (a.put o.dst v') w') :
    Oper.wp Try.prog o a w K Q := by
  obtain ⟨i0, hi0, hz0, hz1, hz2⟩ := info_parts info_ev
  have hl2 : (erow l2).length = l2.length * 5 := by
    rw [erow, flatten_len (k := 5), List.length_map]
    intro c hc
    obtain ⟨j, _, rfl⟩ := List.mem_map.1 hc
    rfl
  have hone : ∀ u ∈ erow l2, u.oneCell' = true := by
    intro u hu
    obtain ⟨c, hc, hu⟩ := List.mem_flatten.1 hu
    obtain ⟨f, _, rfl⟩ := List.mem_map.1 hc
    simp only [evCells, List.mem_cons, List.not_mem_nil, or_false] at hu
    rcases hu with rfl | rfl | rfl | rfl | rfl <;> rfl
  rcases hu.2 with ⟨rfl, h0⟩ | ⟨g, cap, cur, rfl, _⟩
  · have hrun := run_append_owned_none (P := Try.prog) (w := w) base 44 o.type 53 i0 5 Try.underlying44 hi0 v l.length (erow l) hown
    have hl0 : l2 = [] := List.length_eq_zero_iff.1 h0
    unfold Oper.wp execOp
    simp only [ho, resolve, invoke, builtin, Sem.run_bind, Sem.run_pure, Result.andThen_ok, List.map_toArray, List.map_cons, List.map_nil, hs, hx, hrun]
    exact h v w (by rw [hl0, List.append_nil]; exact hown) ⟨rfl, rfl, rfl, Nat.le_refl _, fun _ _ _ => rfl⟩ (.inl rfl)
  · have hcells : ∀ j q, (erow l2)[j]? = some q → w.cell? ((⟨g, 0, none⟩ : Addr).add j) = some q := World.ownsRow.cells (g := g) hu rfl
    obtain ⟨v', w', hr, h2, h3, -, h5⟩ := run_append_own_at (P := Try.prog) w base 44 o.type 53 i0 (.agg #[.int .i64 0, .int .i64 0, .int .i64 0, .int .i64 0, .int .i64 0]) 5 40 Try.underlying44 hi0 hz0 hz1 hz2 rfl (by decide) v l.length (erow l) hown ⟨g, 0, none⟩ l2.length cap (erow l2) hl2 hcells hone (by unfold maxLen; omega) (by omega) hbase
    unfold Oper.wp execOp
    simp only [ho, resolve, invoke, builtin, Sem.run_bind, Sem.run_pure, Result.andThen_ok, List.map_toArray, List.map_cons, List.map_nil, hs, hx, hr]
    refine h v' w' ?_ h3 h5
    unfold EvP
    rw [erow_append, List.length_append]
    exact h2

theorem wpList_appEvs {w : World} {ops : Array Oper} {rest : List Oper} {o : Oper} {a : Act} {Q : Exit → Act → World → Prop} (hgd : o.guard = none) (s x : Operand)
    (ho : o.op = .call { callee := .builtin .append, args := #[s, x], argTypes := #[44, 44] })
    (base b2 : Nat) (v u : Value) (l l2 : List Ev) (hs : a.eval s = v) (hown : EvP w base v l) (hx : a.eval x = u) (hu : EvP w b2 u l2) (hlen : l.length + l2.length ≤ 1000000000) (hbase : base ≤ w.heap.size)
    (h : ∀ v' w', EvP w' base v' (l ++ l2) → w.grownBy w' v.ownBlock → (v'.ownBlock = v.ownBlock ∨ v'.ownBlock = some w.heap.size) → wpList Try.prog ops Q rest (a.put o.dst v') w') :
    wpList Try.prog ops Q (o :: rest) a w :=
  wpList_plain hgd fun _ hK => wp_appEvs s x ho base b2 v u l l2 hs hown hx hu hlen hbase fun v' w' h1 h2 h3 => hK _ _ (h v' w' h1 h2 h3)

set_option maxRecDepth 100000 in
set_option maxHeartbeats 1600000 in
theorem hrun_any (S : Nat → Prop) (base H X : Nat) (N u : Int) (x : Exs) (c : Cfg) (tv : Value) (last : Int) (sv dv : Value) (done : List Ev) (w : World) (h : HouP w S base H X x c tv last sv dv done) (hi : ExIn x N) (hbase : base ≤ w.heap.size) (hlen : done.length + (exRun u 3000 x).2.length ≤ 900000000) :
    Calls Try.prog 16 #[.pointer (some ⟨H, 0, none⟩), .int .i64 u] w fun e w' => e = .returned (.tuple #[]) ∧ (∃ S' dv', HouP w' S' base H X (exRun u 3000 x).1 c tv last sv dv' (done ++ (exRun u 3000 x).2) ∧ (∀ k, S' k → S k ∨ w.heap.size ≤ k) ∧ (dv'.ownBlock = dv.ownBlock ∨ ∃ k, dv'.ownBlock = some k ∧ w.heap.size ≤ k)) ∧ Fr (fun k => S k ∨ k = H ∨ dv.ownBlock = some k) w w' := by
  have HH := hide h
  have hH := h.blk.lt
  have h6 : w.cell? ⟨H, 6, none⟩ = some (.pointer (some ⟨X, 0, none⟩)) := h.blk.cell 6
  have HC := hide (xRun_any S base X N u x w h.xec hbase hi)
  obtain ⟨da, dc, hdv⟩ := ownsRow_slice h.ev
  subst hdv
  generalize exRun u 3000 x = RR at *
  obtain ⟨x', es⟩ := RR
  simp only at hlen HC ⊢
  clear h
  go_enter Try.func16, Try.ntmps16
  go_wp2_with fail
  refine HC.out.mono ?_
  rintro e w1 ⟨ev, rfl, e1, ⟨S1, x1, s1, n1⟩, f1⟩
  have hz1 := f1.size
  have x2 : Xec w1 (fun k => S1 k ∧ k < w1.heap.size) base X x' := x1.mono fun k hk e => ⟨e, hk⟩
  have hb1 : Blk w1 H (hcs c tv X last sv (.slice da done.length dc)) 46 := (f1.block H hH HH.out.nh).trans HH.out.blk
  have hd1 : EvP w1 base (.slice da done.length dc) done := HH.out.ev.same fun k hk => f1.block k (ownsRow_lt HH.out.ev hk).2 (HH.out.nd k hk)
  have g9 : w1.cell? ⟨H, 9, none⟩ = some (.slice da done.length dc) := hb1.cell 9
  have HB1 := hide hb1
  have HD1 := hide hd1
  have HE1 := hide e1
  have HX2 := hide x2
  have HF1 := hide f1
  have HS1 := hide s1
  obtain ⟨ea, ec, hev⟩ := ownsRow_slice e1
  subst hev
  have hdl : ∀ k, (Value.slice da done.length dc).ownBlock = some k → k < w.heap.size := fun k hk => (ownsRow_lt HH.out.ev hk).2
  have HDL := hide hdl
  clear e1 x1 s1 n1 f1 x2 hb1 hd1 hdl
  go_wp2_with (at_builtin; go_must (refine wpList_appEvs rfl _ _ rfl base w.heap.size (.slice da done.length dc) (.slice ea es.length ec) done es rfl HD1.out rfl HE1.out (by omega) (by omega) ?_))
  intro dv2 w2 e2 g2 o2
  obtain ⟨da2, dc2, hdv2⟩ := ownsRow_slice e2
  generalize (done ++ es).length = n2 at hdv2
  subst hdv2
  have hHd : (Value.slice da done.length dc).ownBlock ≠ some H := ownsRow_ne_blk HD1.out HB1.out (by decide)
  have b2 : Blk w2 H (hcs c tv X last sv (.slice da done.length dc)) 46 := HB1.out.grownRow g2 hHd
  have k9 : w2.cell? ⟨H, 9, none⟩ = some (.slice da done.length dc) := b2.cell 9
  have k9f := b2.free 9
  have HB2 := hide b2
  have HE2 := hide e2
  have HG2 := hide g2
  have HO2 := hide o2
  clear e2 g2 o2 b2 g9
  go_wp2
  go_end0
  have hsz2 := HG2.out.size
  have hne : (Value.slice da2 n2 dc2).ownBlock ≠ some H := ownsRow_ne_blk HE2.out HB2.out (by decide)
  have hkeep : ∀ k, k < w1.heap.size → (Value.slice da done.length dc).ownBlock ≠ some k → k ≠ H → (w2.setCell ⟨H, 9, none⟩ (.slice da2 n2 dc2)).heap[k]? = w1.heap[k]? := fun k hk h1 h2 => (heap_setCell_other w2 ⟨H, 9, none⟩ k _ h2).trans (HG2.out.block k hk (fun e => h1 e.symm))
  have hsb : ∀ k, (S1 k ∧ k < w1.heap.size) → (Value.slice da done.length dc).ownBlock ≠ some k ∧ k ≠ H := fun k hk => by
    rcases HS1.out k hk.1 with h | h
    · exact ⟨fun e => HH.out.nd k e h, fun e => HH.out.nh (e ▸ h)⟩
    · exact ⟨fun e => by have := HDL.out k e; omega, fun e => by omega⟩
  refine ⟨rfl, ⟨fun k => S1 k ∧ k < w1.heap.size, .slice da2 n2 dc2, ⟨?_, HX2.out.same fun k hk => hkeep k hk.2 (hsb k hk).1 (hsb k hk).2, HE2.out.same fun k hk => heap_setCell_other w2 ⟨H, 9, none⟩ k _ (fun e => hne (by rw [hk, e])), fun hk => (hsb H hk).2 rfl, fun k hk hs => ?_, HX2.out.lt.2⟩, fun k hk => HS1.out k hk.1, HO2.out.imp id fun e => ⟨_, e, by omega⟩⟩, ?_⟩
  · exact HB2.out.set 9 _
  · rcases HO2.out with o | o
    · exact (hsb k hs).1 (o ▸ hk)
    · rw [o] at hk; cases hk; have := hs.2; omega
  · refine ((HF1.out.mono (Y := fun k => S k ∨ k = H ∨ (Value.slice da done.length dc).ownBlock = some k) fun _ _ h => .inl h).trans (Fr.of_grown (X := fun k => (Value.slice da done.length dc).ownBlock = some k) HG2.out fun k e _ => e) fun _ _ e => .inr (.inr e)).trans (Fr.set (X := fun k => k = H) w2 H 9 _ rfl) fun _ _ e => .inr (.inl e)

end Go.Proofs.Ythloffgebebijaa
