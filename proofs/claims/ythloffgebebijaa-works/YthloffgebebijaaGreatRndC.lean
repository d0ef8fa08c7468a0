/- RndC: the walk of package rounds' work: the job that must be done first is done. -/
import Derived.Test.YthloffgebebijaaGreatRndB
namespace Go.Proofs.YthloffgebebijaaGreat
open Go.RowKit

set_option maxRecDepth 100000 in
set_option maxHeartbeats 3200000 in
theorem work_any (base eb X : Nat) (mu : Int) (dv lv qv ev : Value) (hs : List Jb) (c : Cfg) (fed clock : Int) (ct : Ct) (out : List Ev) (w : World)
    (h : CoreP w base X mu dv lv qv hs c fed clock ct) (hne : hs ≠ []) (he : EvP w eb ev out) (heb : eb ≤ w.heap.size) (hlen : hs.length ≤ 900000) (holen : out.length ≤ 900000000) (hd0 : 0 ≤ ct.done) (hd1 : ct.done ≤ 1000000000000000)
    (hcost : ∀ j ∈ hs, 0 ≤ j.cost ∧ j.cost ≤ 255) (hsw : 0 ≤ c.sw ∧ c.sw ≤ 20) (hck : 0 ≤ clock ∧ clock ≤ 1000000) :
    Calls Tryz.prog 111 #[.pointer (some ⟨X, 2, none⟩), ev] w fun e w' => ∃ j qv' hs' ev', e = .returned ev' ∧ CoreP w' base X mu dv lv qv' hs' c fed (clock + c.sw + j.cost) { ct with done := ct.done + 1 } ∧ (j :: hs').Perm hs ∧ (∀ b ∈ hs, jle j b) ∧ EvP w' eb ev' (out ++ [⟨1, clock, j.number, j.task, j.deadline⟩, ⟨2, clock + c.sw + j.cost, j.number, j.task, j.deadline⟩]) ∧ Fr (fun k => k = X ∨ qv.ownBlock = some k ∨ ev.ownBlock = some k) w w' ∧ qv'.ownBlock = qv.ownBlock ∧ (ev'.ownBlock = ev.ownBlock ∨ ∃ k, ev'.ownBlock = some k ∧ w.heap.size ≤ k) := by
  have hX := h.q.blk.lt
  have HT := hide (qTake_any base X 8 _ _ qv hs w h.q hne hlen)
  have HC := hide h
  have HE := hide he
  have HCOST := hide hcost
  have hqX := h.q.ne
  have hevX : ev.ownBlock ≠ some X := ownsRow_ne_blk he h.q.blk (by decide)
  obtain ⟨hsw0, hsw1⟩ := hsw
  obtain ⟨hck0, hck1⟩ := hck
  clear h he hcost
  go_enter Tryz.func111, Tryz.ntmps111
  go_wp2_with fail
  refine HT.out.mono ?_
  rintro e w1 ⟨⟨jn, jt, jd, jc⟩, qv1, hs1, rfl, q1, p1, m1, f1, o1⟩
  rw [xcs_q] at q1
  have hjc := HCOST.out ⟨jn, jt, jd, jc⟩ (p1.mem_iff.1 (by simp))
  obtain ⟨hjc0, hjc1⟩ := hjc
  simp only at hjc0 hjc1
  have hK : CoreP w1 base X mu dv lv qv1 hs1 c fed clock ct := ⟨q1, ownsRow_same HC.out.d fun k hk => f1.block k (ownsRow_lt HC.out.d hk).2 (by
    rintro (e | e)
    · exact ownsRow_ne_blk HC.out.d HC.out.q.blk (by decide) (by rw [hk, e])
    · exact ownsRow_ne HC.out.d HC.out.q.row (by decide) hk e)⟩
  have hE : EvP w1 eb ev out := HE.out.same fun k hk => f1.block k (ownsRow_lt HE.out hk).2 (by
    rintro (e | e)
    · exact hevX (by rw [hk, e])
    · exact ownsRow_ne HE.out HC.out.q.row (by decide) hk e)
  have hz1 := f1.size
  have HP1 := hide (And.intro p1 m1)
  have HF1 : Hid (Fr (fun k => k = X ∨ qv.ownBlock = some k ∨ ev.ownBlock = some k) w w1) := f1.mono fun k _ e => e.imp id .inl
  have HO1 := hide o1
  have hB : Below w1.heap.size w1 (w1.alloc (.cells #[.int .i64 jn, .int .i64 jt, .int .i64 jc, .int .i64 jd] 202)) := (Below.refl _ _).alloc (Nat.le_refl _) _
  have hK2 := hK.later hB
  have hE2 := hE.later hB
  have hJ2 := Blk.new w1 #[.int .i64 jn, .int .i64 jt, .int .i64 jc, .int .i64 jd] 202
  have HF2 := hide (HF1.out.then_below hB)
  have hz2 : (w1.alloc (.cells #[.int .i64 jn, .int .i64 jt, .int .i64 jc, .int .i64 jd] 202)).heap.size = w1.heap.size + 1 := by simp
  simp only [jobV]
  clear q1 p1 m1 f1 o1 hK hE hB HF1
  have c10 : (w1.alloc (.cells #[.int .i64 jn, .int .i64 jt, .int .i64 jc, .int .i64 jd] 202)).cell? ⟨X, 10, none⟩ = some (.int .i64 clock) := hK2.q.blk.cell 10
  have HEV := hide (event_any X 1 ⟨jn, jt, jd, jc⟩ clock _ c10 hK2.q.blk.lt)
  have HK2 := hide hK2
  have HE2 := hide hE2
  have HJ2 := hide hJ2
  clear hK2 hE2 hJ2 c10
  go_wp2_with fail
  refine HEV.out.mono ?_
  rintro e w3 ⟨rfl, q3⟩
  simp only
  have HK3 := hide (HK2.out.later q3)
  have HE3 := hide (HE2.out.later q3)
  have HJ3 : Hid (Blk w3 w1.heap.size #[.int .i64 jn, .int .i64 jt, .int .i64 jc, .int .i64 jd] 202) := HJ2.out.later q3 HJ2.out.lt
  have HF3 := hide (HF2.out.then_below q3)
  have hz3 := q3.size
  clear q3 HK2 HE2 HJ2 HF2
  have HE3a := hide (HE3.out.later ((Below.refl _ w3).alloc (Nat.le_refl _) (.cells #[.int .i64 1, .int .i64 clock, .int .i64 jn, .int .i64 jt, .int .i64 jd] 149)))
  go_wp2_with (at_builtin; go_must (refine wpList_appEv rfl _ _ rfl eb _ out ⟨1, clock, jn, jt, jd⟩ rfl HE3a.out ⟨w3.heap.size, 0, none⟩ 1 rfl (fresh_cells w3 [.int .i64 1, .int .i64 clock, .int .i64 jn, .int .i64 jt, .int .i64 jd] 149 _ rfl) (by omega) (by simp; omega) ?_))
  intro ev4 w4 e4 g4 o4
  have hz4 := g4.size
  rw [hz2] at hz3
  have hkeep : ∀ k, k < w3.heap.size → ev.ownBlock ≠ some k → w4.heap[k]? = w3.heap[k]? := fun k hk hn => (g4.block k (by simp; omega) (fun e => hn e.symm)).trans (Below.heap_alloc w3 _ k hk)
  have hK4 : CoreP w4 base X mu dv lv qv1 hs1 c fed clock ct := HK3.out.same fun k hk => hkeep k (by
      rcases hk with rfl | e | e
      · exact HK3.out.q.blk.lt
      · exact (ownsRow_lt HK3.out.q.row e).2
      · exact (ownsRow_lt HK3.out.d e).2) (by
      rcases hk with rfl | e | e
      · exact hevX
      · exact ownsRow_ne HK3.out.q.row HE3.out (by decide) e
      · exact ownsRow_ne HK3.out.d HE3.out (by decide) e)
  have hJ4 : Blk w4 w1.heap.size #[.int .i64 jn, .int .i64 jt, .int .i64 jc, .int .i64 jd] 202 := (hkeep _ (by omega) (ownsRow_ne_blk HE3.out HJ3.out (by decide))).trans HJ3.out
  have hF4 : Fr (fun k => k = X ∨ qv.ownBlock = some k ∨ ev.ownBlock = some k) w w4 := HF3.out.trans (Y := fun k => ev.ownBlock = some k) ⟨g4.os, g4.tape, g4.output, by have := g4.size; simp at this; omega, fun k hk hn => hkeep k hk hn⟩ fun _ _ e => .inr (.inr e)
  have hO4 : ev4.ownBlock = ev.ownBlock ∨ ∃ k, ev4.ownBlock = some k ∧ w.heap.size ≤ k := o4.imp id fun e => ⟨_, e, by omega⟩
  have HK4 := hide hK4
  have HE4 := hide e4
  have HJ4 := hide hJ4
  have HF4 := hide hF4
  have HO4 := hide hO4
  have c5 : w4.cell? ⟨X, 5, none⟩ = some (.int .i64 c.sw) := hK4.q.blk.cell 5
  have c10 : w4.cell? ⟨X, 10, none⟩ = some (.int .i64 clock) := hK4.q.blk.cell 10
  have c12 : w4.cell? ⟨X, 12, none⟩ = some (.int .i64 ct.done) := hK4.q.blk.cell 12
  have z10 := hK4.q.blk.free 10
  have z12 := hK4.q.blk.free 12
  have j0 : w4.cell? ⟨w1.heap.size, 0, none⟩ = some (.int .i64 jn) := hJ4.cell 0
  have j1 : w4.cell? ⟨w1.heap.size, 1, none⟩ = some (.int .i64 jt) := hJ4.cell 1
  have j2 : w4.cell? ⟨w1.heap.size, 2, none⟩ = some (.int .i64 jc) := hJ4.cell 2
  have j3 : w4.cell? ⟨w1.heap.size, 3, none⟩ = some (.int .i64 jd) := hJ4.cell 3
  have hXN : X ≠ w1.heap.size := by omega
  have hNX : w1.heap.size ≠ X := by omega
  clear hK4 e4 hJ4 hF4 hO4 o4 g4 hkeep HE3a HK3 HJ3 HF3
  have hK5 : CoreP (((w4.setCell ⟨X, 10, none⟩ (.int .i64 (clock + (c.sw + jc)))).setCell ⟨X, 12, none⟩ (.int .i64 (ct.done + 1))).drew) base X mu dv lv qv1 hs1 c fed (clock + (c.sw + jc)) { ct with done := ct.done + 1 } := (((HK4.out.count 10 (.int .i64 (clock + (c.sw + jc))) (clock' := clock + (c.sw + jc)) (ct' := ct) rfl).count 12 (.int .i64 (ct.done + 1)) (clock' := clock + (c.sw + jc)) (ct' := { ct with done := ct.done + 1 }) rfl)).same fun _ _ => rfl
  have hE5 : EvP (((w4.setCell ⟨X, 10, none⟩ (.int .i64 (clock + (c.sw + jc)))).setCell ⟨X, 12, none⟩ (.int .i64 (ct.done + 1))).drew) eb ev4 (out ++ [⟨1, clock, jn, jt, jd⟩]) := HE4.out.same fun k hk => by
    have hne : k ≠ X := fun e => ownsRow_ne_blk HE4.out HK4.out.q.blk (by decide) (by rw [hk, e])
    exact (heap_setCell_other (w4.setCell ⟨X, 10, none⟩ (.int .i64 (clock + (c.sw + jc)))) ⟨X, 12, none⟩ k _ hne).trans (heap_setCell_other w4 ⟨X, 10, none⟩ k _ hne)
  have hF5 : Fr (fun k => k = X ∨ qv.ownBlock = some k ∨ ev.ownBlock = some k) w (((w4.setCell ⟨X, 10, none⟩ (.int .i64 (clock + (c.sw + jc)))).setCell ⟨X, 12, none⟩ (.int .i64 (ct.done + 1))).drew) :=
    ((HF4.out.trans (Fr.set (X := fun k => k = X) _ X 10 _ rfl) fun _ _ e => .inl e).trans (Fr.set (X := fun k => k = X) _ X 12 _ rfl) fun _ _ e => .inl e).drew
  have hz5 : (((w4.setCell ⟨X, 10, none⟩ (.int .i64 (clock + (c.sw + jc)))).setCell ⟨X, 12, none⟩ (.int .i64 (ct.done + 1))).drew).heap.size = w4.heap.size := by simp
  have d10 : (((w4.setCell ⟨X, 10, none⟩ (.int .i64 (clock + (c.sw + jc)))).setCell ⟨X, 12, none⟩ (.int .i64 (ct.done + 1))).drew).cell? ⟨X, 10, none⟩ = some (.int .i64 (clock + (c.sw + jc))) := hK5.q.blk.cell 10
  have HEV2 := hide (event_any X 2 ⟨jn, jt, jd, jc⟩ (clock + (c.sw + jc)) _ d10 hK5.q.blk.lt)
  have HK5 := hide hK5
  have HE5 := hide hE5
  have HF5 := hide hF5
  have HZ5 := hide hz5
  clear hK5 hE5 hF5 d10 hz5
  go_wp2_with fail
  apply wp_once
  case h =>
    go_region
    all_goals exact ⟨rfl, rfl⟩
  go_wp2_with fail
  refine HEV2.out.mono ?_
  rintro e w6 ⟨rfl, q6⟩
  simp only
  have HK6 := hide (HK5.out.later q6)
  have HE6 := hide (HE5.out.later q6)
  have HF6 := hide (HF5.out.then_below q6)
  have hz6 := q6.size
  rw [HZ5.out] at hz6
  have hzw6 := HF6.out.size
  have hl6 : (out ++ [(⟨1, clock, jn, jt, jd⟩ : Ev)]).length = out.length + 1 := by simp
  have HEa := hide (HE6.out.later ((Below.refl _ w6).alloc (Nat.le_refl _) (.cells #[.int .i64 2, .int .i64 (clock + (c.sw + jc)), .int .i64 jn, .int .i64 jt, .int .i64 jd] 149)))
  clear q6 HEV2 HEV HT HK5 HE5 HF5 c5 c10 c12 z10 z12 j0 j1 j2 j3
  go_wp2_with (at_builtin; go_must (refine wpList_appEv rfl _ _ rfl eb ev4 (out ++ [(⟨1, clock, jn, jt, jd⟩ : Ev)]) ⟨2, clock + (c.sw + jc), jn, jt, jd⟩ rfl HEa.out ⟨w6.heap.size, 0, none⟩ 1 rfl (fresh_cells w6 [.int .i64 2, .int .i64 (clock + (c.sw + jc)), .int .i64 jn, .int .i64 jt, .int .i64 jd] 149 _ rfl) (by omega) (by simp; omega) ?_))
  intro ev7 w7 e7 g7 o7
  have hkeep : ∀ k, k < w6.heap.size → ev4.ownBlock ≠ some k → w7.heap[k]? = w6.heap[k]? := fun k hk hn => (g7.block k (by simp; omega) (fun e => hn e.symm)).trans (Below.heap_alloc w6 _ k hk)
  have hK7 : CoreP w7 base X mu dv lv qv1 hs1 c fed (clock + (c.sw + jc)) { ct with done := ct.done + 1 } := HK6.out.same fun k hk => hkeep k (by
      rcases hk with rfl | e | e
      · exact HK6.out.q.blk.lt
      · exact (ownsRow_lt HK6.out.q.row e).2
      · exact (ownsRow_lt HK6.out.d e).2) (by
      rcases hk with rfl | e | e
      · exact ownsRow_ne_blk HE6.out HK6.out.q.blk (by decide)
      · exact ownsRow_ne HK6.out.q.row HE6.out (by decide) e
      · exact ownsRow_ne HK6.out.d HE6.out (by decide) e)
  have hF7 : Fr (fun k => k = X ∨ qv.ownBlock = some k ∨ ev.ownBlock = some k) w w7 := HF6.out.trans (Y := fun k => ev4.ownBlock = some k) ⟨g7.os, g7.tape, g7.output, by have := g7.size; simp at this; omega, fun k hk hn => hkeep k hk hn⟩ fun k hk e => by
    rcases HO4.out with o | ⟨z, o, hz⟩
    · exact .inr (.inr (o ▸ e))
    · rw [o] at e; cases e; omega
  have hO7 : ev7.ownBlock = ev.ownBlock ∨ ∃ k, ev7.ownBlock = some k ∧ w.heap.size ≤ k := by
    rcases o7 with o | o
    · rw [o]; exact HO4.out
    · exact .inr ⟨_, o, by have := HF6.out.size; simp; omega⟩
  have HK7 := hide hK7
  have HE7 := hide e7
  have HF7 := hide hF7
  have HO7 := hide hO7
  clear hK7 e7 hF7 hO7 o7 g7 hkeep HEa HK6 HE6 HF6
  go_wp2
  go_ret
  have hac : clock + c.sw + jc = clock + (c.sw + jc) := by omega
  refine ⟨⟨jn, jt, jd, jc⟩, qv1, hs1, ev7, rfl, ?_, HP1.out.1, HP1.out.2, ?_, HF7.out, HO1.out, HO7.out⟩
  · simp only [hac]; exact HK7.out
  · simp only [hac]
    first
    | exact HE7.out
    | (have := HE7.out
       rw [List.append_assoc] at this
       exact this)

end Go.Proofs.YthloffgebebijaaGreat
