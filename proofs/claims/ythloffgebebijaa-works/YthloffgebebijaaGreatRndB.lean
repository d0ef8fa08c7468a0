/- RndB: the walk of package rounds' take: what becomes of a message. -/
import Derived.Test.YthloffgebebijaaGreatRndA
import Derived.Deep.RegionHeld3
import Derived.Deep.DrawnRows
namespace Go.Proofs.YthloffgebebijaaGreat
open Go.RowKit

theorem xcs_q (mu : Int) (dv lv qv qv' : Value) (c : Cfg) (fed clock : Int) (ct : Ct) : (xcs mu dv lv qv c fed clock ct).setIfInBounds 8 qv' = xcs mu dv lv qv' c fed clock ct := rfl
theorem World.drewN_heap (w : World) (n : Nat) : (w.drewN n).heap = w.heap := rfl

/-- The bounds that the counts keep to. -/
structure CtIn (ct : Ct) : Prop where
  j0 : 0 ≤ ct.jobs
  j1 : ct.jobs ≤ 1000000000000000
  l0 : 0 ≤ ct.lost
  l1 : ct.lost ≤ 1000000000000000
  u0 : 0 ≤ ct.unknown
  u1 : ct.unknown ≤ 1000000000000000
  b0 : 0 ≤ ct.bad
  b1 : ct.bad ≤ 1000000000000000
  d0 : 0 ≤ ct.done
  d1 : ct.done ≤ 1000000000000000

set_option maxRecDepth 100000 in
set_option maxHeartbeats 3200000 in
theorem take_any (base eb X : Nat) (mu : Int) (dv lv qv ev : Value) (hs : List Jb) (c : Cfg) (fed : Int) (t : Int) (r : Rdg) (m : Mg) (w : World)
    (h : CoreP w base X mu dv lv qv hs c fed t r.ct) (hp : hs.Perm r.jobs) (he : EvP w eb ev r.out) (hbase : base ≤ w.heap.size) (heb : eb ≤ w.heap.size) (hlen : r.jobs.length ≤ 900000) (holen : r.out.length ≤ 900000000) (hct : CtIn r.ct)
    (hroom : (r.jobs.length : Int) ≤ c.room) (hm0 : 0 ≤ m.task) (hmt : 0 ≤ m.tick ∧ m.tick ≤ 1000000) (hdue : ∀ t ∈ c.tasks, 1 ≤ t.due ∧ t.due ≤ 400) (hts : c.tasks.length ≤ 1000000) (_hck : 0 ≤ t ∧ t ≤ 1000000) :
    Calls Tryz.prog 124 #[.pointer (some ⟨X, 2, none⟩), .agg #[.int .i64 m.task, .int .i64 m.cost, .int .i64 m.tick], ev] w fun e w' => ∃ qv' hs' ev', e = .returned ev' ∧ CoreP w' base X mu dv lv qv' hs' c fed t (exTake c t r m).ct ∧ hs'.Perm (exTake c t r m).jobs ∧ EvP w' eb ev' (exTake c t r m).out ∧ Fr (fun k => k = X ∨ qv.ownBlock = some k ∨ ev.ownBlock = some k) w w' ∧ (qv'.ownBlock = qv.ownBlock ∨ ∃ k, qv'.ownBlock = some k ∧ w.heap.size ≤ k) ∧ (ev'.ownBlock = ev.ownBlock ∨ ∃ k, ev'.ownBlock = some k ∧ w.heap.size ≤ k) := by
  have hX := h.q.blk.lt
  have c2 : w.cell? ⟨X, 2, none⟩ = some (.int .i64 c.room) := h.q.blk.cell 2
  have c6 : w.cell? ⟨X, 6, none⟩ = some dv := h.q.blk.cell 6
  have c8 : w.cell? ⟨X, 8, none⟩ = some qv := h.q.blk.cell 8
  have c10 : w.cell? ⟨X, 10, none⟩ = some (.int .i64 t) := h.q.blk.cell 10
  have c11 : w.cell? ⟨X, 11, none⟩ = some (.int .i64 r.ct.jobs) := h.q.blk.cell 11
  have c14 : w.cell? ⟨X, 14, none⟩ = some (.int .i64 r.ct.lost) := h.q.blk.cell 14
  have c15 : w.cell? ⟨X, 15, none⟩ = some (.int .i64 r.ct.unknown) := h.q.blk.cell 15
  have z11 := h.q.blk.free 11
  have z14 := h.q.blk.free 14
  have z15 := h.q.blk.free 15
  obtain ⟨da, dc, hdv⟩ := ownsRow_slice h.d
  obtain ⟨m0, m1, m2⟩ := m
  simp only at hm0 hmt ⊢
  obtain ⟨ht0, ht1⟩ := hmt
  obtain ⟨hj0, hj1, hlo0, hlo1, hu0, hu1, hb0, hb1, hd0, hd1⟩ := hct
  subst hdv
  have HC := hide h
  have HP := hide hp
  have HE := hide he
  have HDUE := hide hdue
  have HB0 : Hid (Below w.heap.size w (w.alloc (.cells #[.int .i64 m0, .int .i64 m1, .int .i64 m2] 199))) := (Below.refl _ _).alloc (Nat.le_refl _) _
  generalize hNT : c.tasks.length = nt at *
  have HNT := hide hNT
  clear h hp he hdue hNT
  by_cases hun : (nt : Int) ≤ m0
  · have HT : Hid (exTake c t r ⟨m0, m1, m2⟩ = { r with ct := { r.ct with unknown := r.ct.unknown + 1 } }) := by rw [Hid, exTake, if_pos (by rw [HNT.out]; exact hun)]
    go_enter Tryz.func124, Tryz.ntmps124
    go_wp2_with fail
    go_quiet ((fail))
    go_wp2
    go_ret
    rw [HT.out]
    have k1 : CoreP ((w.alloc (.cells #[.int .i64 m0, .int .i64 m1, .int .i64 m2] 199)).drewN nq) base X mu (.slice da nt dc) lv qv hs c fed t r.ct := (HC.out.later HB0.out).same fun _ _ => rfl
    have e1 : EvP ((w.alloc (.cells #[.int .i64 m0, .int .i64 m1, .int .i64 m2] 199)).drewN nq) eb ev r.out := (HE.out.later HB0.out).same fun _ _ => rfl
    refine ⟨qv, hs, ev, rfl, k1.count 15 _ rfl, HP.out, e1.same fun k hk => heap_setCell_other _ ⟨X, 15, none⟩ k _ (fun e => ownsRow_ne_blk e1 k1.q.blk (by decide) (by rw [hk, e])), ?_, .inl rfl, .inl rfl⟩
    exact ((Fr.of_below (X := fun k => k = X ∨ qv.ownBlock = some k ∨ ev.ownBlock = some k) (below_drewN HB0.out nq)).trans (Fr.set (X := fun k => k = X) _ X 15 _ rfl) fun _ _ e => .inl e)
  · obtain ⟨p, rfl⟩ : ∃ p : Nat, m0 = (p : Int) := ⟨m0.toNat, by omega⟩
    have hpn : p < nt := by omega
    have hpi : (p : Int) < (nt : Int) := by omega
    obtain ⟨tk, htk⟩ := get_of_lt (l := c.tasks) (k := p) (by rw [HNT.out]; exact hpn)
    have hdue := HDUE.out tk (List.mem_of_getElem? htk)
    obtain ⟨g, dcap, hdv, -⟩ := ownsRow_some HC.out.d (by rw [HNT.out]; omega)
    rw [HNT.out] at hdv
    simp only [Value.slice.injEq, true_and] at hdv
    obtain ⟨rfl, rfl⟩ := hdv
    have cd : w.cell? ⟨g, p, none⟩ = some (.int .i64 tk.due) := by
      have := World.ownsRow.cells (g := g) HC.out.d (by rfl) p (.int .i64 tk.due) (by simp [dueRow, htk])
      rw [Addr.add] at this
      split at this
      · rename_i h0; subst h0; exact this
      · simpa using this
    have hgl : g < w.heap.size := (ownsRow_lt HC.out.d (k := g) rfl).2
    have HD : Hid ((c.tasks.map Tk.due).getD (p : Int).toNat 0 = tk.due) := by simp [Hid, htk]
    obtain ⟨hdu0, hdu1⟩ := hdue
    generalize tk.due = du at *
    have HB1 : Hid (Below w.heap.size w ((w.alloc (.cells #[.int .i64 p, .int .i64 m1, .int .i64 m2] 199)).alloc (.cells #[.int .i64 r.ct.jobs, .int .i64 p, .int .i64 m1, .int .i64 (m2 + du)] 202))) := HB0.out.alloc (by simp) _
    have HWR : Hid (IntKind.i64.wrap (m2 + du) = m2 + du) := IntWalk.i64_in _ ⟨by omega, by omega⟩
    clear htk
    have hK : CoreP ((w.alloc (.cells #[.int .i64 p, .int .i64 m1, .int .i64 m2] 199)).alloc (.cells #[.int .i64 r.ct.jobs, .int .i64 p, .int .i64 m1, .int .i64 (m2 + du)] 202)) base X mu (.slice (some ⟨g, 0, none⟩) nt dc) lv qv hs c fed t r.ct := HC.out.later HB1.out
    have hE : EvP ((w.alloc (.cells #[.int .i64 p, .int .i64 m1, .int .i64 m2] 199)).alloc (.cells #[.int .i64 r.ct.jobs, .int .i64 p, .int .i64 m1, .int .i64 (m2 + du)] 202)) eb ev r.out := HE.out.later HB1.out
    have hJ : Blk ((w.alloc (.cells #[.int .i64 p, .int .i64 m1, .int .i64 m2] 199)).alloc (.cells #[.int .i64 r.ct.jobs, .int .i64 p, .int .i64 m1, .int .i64 (m2 + du)] 202)) (w.heap.size + 1) #[.int .i64 r.ct.jobs, .int .i64 p, .int .i64 m1, .int .i64 (m2 + du)] 202 := by
      have := Blk.new (w.alloc (.cells #[.int .i64 p, .int .i64 m1, .int .i64 m2] 199)) #[.int .i64 r.ct.jobs, .int .i64 p, .int .i64 m1, .int .i64 (m2 + du)] 202
      simpa using this
    have HK := hide hK
    have HE1 := hide hE
    have HJ := hide hJ
    clear hK hE hJ
    go_enter Tryz.func124, Tryz.ntmps124
    go_wp2_with fail
    go_quiet ((fail))
    go_wp2_with fail
    apply wp_once
    case h =>
      go_region_held3 (fun w' => w'.cell? ⟨X, 11, none⟩ = some (.int .i64 r.ct.jobs) ∧ w'.cell? ⟨X, 6, none⟩ = some (.slice (some ⟨g, 0, none⟩) nt dc) ∧ w'.cell? ⟨g, p, none⟩ = some (.int .i64 du) ∧ w'.cell? ⟨w.heap.size, 0, none⟩ = some (.int .i64 p) ∧ w'.cell? ⟨w.heap.size, 1, none⟩ = some (.int .i64 m1) ∧ w'.cell? ⟨w.heap.size, 2, none⟩ = some (.int .i64 m2)) (go_keep) (fail)
      all_goals exact ⟨rfl, rfl⟩
    rw [HWR.out]
    have hK : CoreP (((w.alloc (.cells #[.int .i64 p, .int .i64 m1, .int .i64 m2] 199)).drewN (nq + 1)).alloc (.cells #[.int .i64 r.ct.jobs, .int .i64 p, .int .i64 m1, .int .i64 (m2 + du)] 202)) base X mu (.slice (some ⟨g, 0, none⟩) nt dc) lv qv hs c fed t r.ct := HK.out.same fun _ _ => rfl
    have hE : EvP (((w.alloc (.cells #[.int .i64 p, .int .i64 m1, .int .i64 m2] 199)).drewN (nq + 1)).alloc (.cells #[.int .i64 r.ct.jobs, .int .i64 p, .int .i64 m1, .int .i64 (m2 + du)] 202)) eb ev r.out := HE1.out.same fun _ _ => rfl
    have hJ : Blk (((w.alloc (.cells #[.int .i64 p, .int .i64 m1, .int .i64 m2] 199)).drewN (nq + 1)).alloc (.cells #[.int .i64 r.ct.jobs, .int .i64 p, .int .i64 m1, .int .i64 (m2 + du)] 202)) (w.heap.size + 1) #[.int .i64 r.ct.jobs, .int .i64 p, .int .i64 m1, .int .i64 (m2 + du)] 202 := HJ.out
    have hB : Below w.heap.size w (((w.alloc (.cells #[.int .i64 p, .int .i64 m1, .int .i64 m2] 199)).drewN (nq + 1)).alloc (.cells #[.int .i64 r.ct.jobs, .int .i64 p, .int .i64 m1, .int .i64 (m2 + du)] 202)) := (below_drewN HB0.out (nq + 1)).alloc (by simp) _
    have hz1 : (((w.alloc (.cells #[.int .i64 p, .int .i64 m1, .int .i64 m2] 199)).drewN (nq + 1)).alloc (.cells #[.int .i64 r.ct.jobs, .int .i64 p, .int .i64 m1, .int .i64 (m2 + du)] 202)).heap.size = w.heap.size + 2 := by simp
    generalize ((w.alloc (.cells #[.int .i64 p, .int .i64 m1, .int .i64 m2] 199)).drewN (nq + 1)).alloc (.cells #[.int .i64 r.ct.jobs, .int .i64 p, .int .i64 m1, .int .i64 (m2 + du)] 202) = W1 at *
    clear HK HE1 HJ HB1 c2 c6 c8 c10 c11 c14 c15 z11 z14 z15 cd
    have c2 : W1.cell? ⟨X, 2, none⟩ = some (.int .i64 c.room) := hK.q.blk.cell 2
    have HLEN : Hid (∀ n, Calls Tryz.prog 92 #[.pointer (some ⟨X, 8, none⟩)] (W1.drewN n) fun e w' => e = .returned (.int .i64 hs.length) ∧ w' = W1.drewN n) := fun n => qLen_any base X 8 _ _ qv hs _ (hK.q.same fun _ _ => rfl)
    have HK := hide hK
    have HE1 := hide hE
    have HJ := hide hJ
    have HB1 := hide hB
    have HPL : Hid (hs.length = r.jobs.length) := HP.out.length_eq
    have hpl := HP.out.length_eq
    clear hK hE hJ hB
    have hXN : X ≠ w.heap.size + 1 := by omega
    have hNX : w.heap.size + 1 ≠ X := by omega
    by_cases hfull : (r.jobs.length : Int) = c.room
    · have HT : Hid (exTake c t r ⟨p, m1, m2⟩ = { r with ct := { r.ct with lost := r.ct.lost + 1 }, out := r.out ++ [⟨3, t, -1, p, m2 + du⟩] }) := by rw [Hid, exTake, if_neg (by rw [HNT.out]; simp only; omega), if_pos hfull, HD.out]
      have hful2 : c.room ≤ (hs.length : Int) := by omega
      go_wp2_with fail
      go_quiet ((go_at_call 92; refine Calls.quiet_of_same (HLEN.out _)))
      have hK : CoreP (W1.drewN nq) base X mu (.slice (some ⟨g, 0, none⟩) nt dc) lv qv hs c fed t r.ct := HK.out.same fun _ _ => rfl
      have hE : EvP (W1.drewN nq) eb ev r.out := HE1.out.same fun _ _ => rfl
      have hJ : Blk (W1.drewN nq) (w.heap.size + 1) #[.int .i64 r.ct.jobs, .int .i64 p, .int .i64 m1, .int .i64 (m2 + du)] 202 := HJ.out
      have hB : Below w.heap.size w (W1.drewN nq) := below_drewN HB1.out nq
      have hz2 : (W1.drewN nq).heap.size = w.heap.size + 2 := hz1
      generalize W1.drewN nq = W2 at *
      clear HLEN HK HE1 HJ HB1 c2
      have c14 : W2.cell? ⟨X, 14, none⟩ = some (.int .i64 r.ct.lost) := hK.q.blk.cell 14
      have z14 := hK.q.blk.free 14
      have j0 : W2.cell? ⟨w.heap.size + 1, 0, none⟩ = some (.int .i64 r.ct.jobs) := hJ.cell 0
      have j1 : W2.cell? ⟨w.heap.size + 1, 1, none⟩ = some (.int .i64 p) := hJ.cell 1
      have j2 : W2.cell? ⟨w.heap.size + 1, 2, none⟩ = some (.int .i64 m1) := hJ.cell 2
      have j3 : W2.cell? ⟨w.heap.size + 1, 3, none⟩ = some (.int .i64 (m2 + du)) := hJ.cell 3
      have zj := hJ.free 0
      have hK3 : CoreP ((W2.setCell ⟨X, 14, none⟩ (.int .i64 (r.ct.lost + 1))).setCell ⟨w.heap.size + 1, 0, none⟩ (.int .i64 (-1))) base X mu (.slice (some ⟨g, 0, none⟩) nt dc) lv qv hs c fed t { r.ct with lost := r.ct.lost + 1 } := by
        have := hK.count 14 (.int .i64 (r.ct.lost + 1)) (clock' := t) (ct' := { r.ct with lost := r.ct.lost + 1 }) rfl
        refine this.same fun k hk => heap_setCell_other _ ⟨w.heap.size + 1, 0, none⟩ k _ (fun e => ?_)
        simp only at e
        subst e
        rcases hk with e | e | e
        · exact hNX e
        · have := (ownsRow_lt HC.out.q.row e).2; omega
        · exact ownsRow_ne_blk hK.d hJ (by decide) e
      have hE3 : EvP ((W2.setCell ⟨X, 14, none⟩ (.int .i64 (r.ct.lost + 1))).setCell ⟨w.heap.size + 1, 0, none⟩ (.int .i64 (-1))) eb ev r.out := hE.same fun k hk => by
        rw [heap_setCell_other _ ⟨w.heap.size + 1, 0, none⟩ k _ (fun e => ownsRow_ne_blk hE hJ (by decide) (by rw [hk, e])), heap_setCell_other _ ⟨X, 14, none⟩ k _ (fun e => ownsRow_ne_blk hE hK.q.blk (by decide) (by rw [hk, e]))]
      have hF3 : Fr (fun k => k = X ∨ qv.ownBlock = some k ∨ ev.ownBlock = some k) w ((W2.setCell ⟨X, 14, none⟩ (.int .i64 (r.ct.lost + 1))).setCell ⟨w.heap.size + 1, 0, none⟩ (.int .i64 (-1))) :=
        ((Fr.of_below (X := fun k => k = X ∨ qv.ownBlock = some k ∨ ev.ownBlock = some k) hB).trans (Fr.set (X := fun k => k = X) _ X 14 _ rfl) fun _ _ e => .inl e).setNew 0 _ (by omega)
      have hz3 : ((W2.setCell ⟨X, 14, none⟩ (.int .i64 (r.ct.lost + 1))).setCell ⟨w.heap.size + 1, 0, none⟩ (.int .i64 (-1))).heap.size = w.heap.size + 2 := by simp [hz2]
      have d10 : ((W2.setCell ⟨X, 14, none⟩ (.int .i64 (r.ct.lost + 1))).setCell ⟨w.heap.size + 1, 0, none⟩ (.int .i64 (-1))).cell? ⟨X, 10, none⟩ = some (.int .i64 t) := hK3.q.blk.cell 10
      have HEV := hide (event_any X 3 ⟨-1, p, m2 + du, m1⟩ t _ d10 hK3.q.blk.lt)
      have HK3 := hide hK3
      have HE3 := hide hE3
      have HF3 := hide hF3
      clear hK hE hJ hB hK3 hE3 hF3 d10
      go_wp2_with fail
      refine HEV.out.mono ?_
      rintro e w3 ⟨rfl, q3⟩
      simp only
      have HK4 := hide (HK3.out.later q3)
      have HE4 := hide (HE3.out.later q3)
      have HF4 := hide (HF3.out.then_below q3)
      have hz4 := q3.size
      rw [hz3] at hz4
      have HEa := hide (HE4.out.later ((Below.refl _ w3).alloc (Nat.le_refl _) (.cells #[.int .i64 3, .int .i64 t, .int .i64 (-1), .int .i64 p, .int .i64 (m2 + du)] 149)))
      clear q3 HEV HK3 HE3 HF3 c14 z14 j0 j1 j2 j3 zj
      go_wp2_with (at_builtin; go_must (refine wpList_appEv rfl _ _ rfl eb _ r.out ⟨3, t, -1, p, m2 + du⟩ rfl HEa.out ⟨w3.heap.size, 0, none⟩ 1 rfl (fresh_cells w3 [.int .i64 3, .int .i64 t, .int .i64 (-1), .int .i64 p, .int .i64 (m2 + du)] 149 _ rfl) (by omega) (by simp; omega) ?_))
      intro ev5 w5 e5 g5 o5
      have hkeep : ∀ k, k < w3.heap.size → ev.ownBlock ≠ some k → w5.heap[k]? = w3.heap[k]? := fun k hk hn => (g5.block k (by simp; omega) (fun e => hn e.symm)).trans (Below.heap_alloc w3 _ k hk)
      have hK5 : CoreP w5 base X mu (.slice (some ⟨g, 0, none⟩) nt dc) lv qv hs c fed t { r.ct with lost := r.ct.lost + 1 } := HK4.out.same fun k hk => hkeep k (by
          rcases hk with rfl | e | e
          · exact HK4.out.q.blk.lt
          · exact (ownsRow_lt HK4.out.q.row e).2
          · exact (ownsRow_lt HK4.out.d e).2) (by
          rcases hk with rfl | e | e
          · exact ownsRow_ne_blk HE4.out HK4.out.q.blk (by decide)
          · exact ownsRow_ne HK4.out.q.row HE4.out (by decide) e
          · exact ownsRow_ne HK4.out.d HE4.out (by decide) e)
      have hF5 : Fr (fun k => k = X ∨ qv.ownBlock = some k ∨ ev.ownBlock = some k) w w5 := HF4.out.trans (Y := fun k => ev.ownBlock = some k) ⟨g5.os, g5.tape, g5.output, by have := g5.size; simp at this; omega, fun k hk hn => hkeep k hk hn⟩ fun _ _ e => .inr (.inr e)
      have hO5 : ev5.ownBlock = ev.ownBlock ∨ ∃ k, ev5.ownBlock = some k ∧ w.heap.size ≤ k := o5.imp id fun e => ⟨_, e, by omega⟩
      have HK5 := hide hK5
      have HE5 := hide e5
      have HF5 := hide hF5
      have HO5 := hide hO5
      clear hK5 e5 hF5 hO5 o5 g5 hkeep HEa HK4 HE4 HF4
      go_wp2
      go_ret
      rw [HT.out]
      exact ⟨qv, hs, ev5, rfl, HK5.out, HP.out, HE5.out, HF5.out, .inl rfl, HO5.out⟩
    · have HT : Hid (exTake c t r ⟨p, m1, m2⟩ = { r with jobs := r.jobs ++ [⟨r.ct.jobs, p, m2 + du, m1⟩], ct := { r.ct with jobs := r.ct.jobs + 1 } }) := by rw [Hid, exTake, if_neg (by rw [HNT.out]; simp only; omega), if_neg hfull, HD.out]
      have hful2 : ¬ c.room ≤ (hs.length : Int) := by omega
      have hful3 : (hs.length : Int) < c.room := by omega
      go_wp2_with fail
      go_quiet ((go_at_call 92; refine Calls.quiet_of_same (HLEN.out _)))
      have hK : CoreP (W1.drewN nq) base X mu (.slice (some ⟨g, 0, none⟩) nt dc) lv qv hs c fed t r.ct := HK.out.same fun _ _ => rfl
      have hE : EvP (W1.drewN nq) eb ev r.out := HE1.out.same fun _ _ => rfl
      have hJ : Blk (W1.drewN nq) (w.heap.size + 1) #[.int .i64 r.ct.jobs, .int .i64 p, .int .i64 m1, .int .i64 (m2 + du)] 202 := HJ.out
      have hB : Below w.heap.size w (W1.drewN nq) := below_drewN HB1.out nq
      have hz2 : (W1.drewN nq).heap.size = w.heap.size + 2 := hz1
      generalize W1.drewN nq = W2 at *
      clear HLEN HK HE1 HJ HB1 c2
      have c11 : W2.cell? ⟨X, 11, none⟩ = some (.int .i64 r.ct.jobs) := hK.q.blk.cell 11
      have z11 := hK.q.blk.free 11
      have j0 : W2.cell? ⟨w.heap.size + 1, 0, none⟩ = some (.int .i64 r.ct.jobs) := hJ.cell 0
      have j1 : W2.cell? ⟨w.heap.size + 1, 1, none⟩ = some (.int .i64 p) := hJ.cell 1
      have j2 : W2.cell? ⟨w.heap.size + 1, 2, none⟩ = some (.int .i64 m1) := hJ.cell 2
      have j3 : W2.cell? ⟨w.heap.size + 1, 3, none⟩ = some (.int .i64 (m2 + du)) := hJ.cell 3
      have hK3 : CoreP (W2.setCell ⟨X, 11, none⟩ (.int .i64 (r.ct.jobs + 1))) base X mu (.slice (some ⟨g, 0, none⟩) nt dc) lv qv hs c fed t { r.ct with jobs := r.ct.jobs + 1 } := hK.count 11 _ rfl
      have hE3 : EvP (W2.setCell ⟨X, 11, none⟩ (.int .i64 (r.ct.jobs + 1))) eb ev r.out := hE.same fun k hk => heap_setCell_other _ ⟨X, 11, none⟩ k _ (fun e => ownsRow_ne_blk hE hK.q.blk (by decide) (by rw [hk, e]))
      have hF3 : Fr (fun k => k = X ∨ qv.ownBlock = some k ∨ ev.ownBlock = some k) w (W2.setCell ⟨X, 11, none⟩ (.int .i64 (r.ct.jobs + 1))) :=
        (Fr.of_below (X := fun k => k = X ∨ qv.ownBlock = some k ∨ ev.ownBlock = some k) hB).trans (Fr.set (X := fun k => k = X) _ X 11 _ rfl) fun _ _ e => .inl e
      have hz3 : (W2.setCell ⟨X, 11, none⟩ (.int .i64 (r.ct.jobs + 1))).heap.size = w.heap.size + 2 := by simp [hz2]
      have HPUT := hide (qPut_any base X 8 _ _ qv hs ⟨r.ct.jobs, p, m2 + du, m1⟩ (W2.setCell ⟨X, 11, none⟩ (.int .i64 (r.ct.jobs + 1))).drew (hK3.q.same fun _ _ => rfl) (by omega) (by rw [show (W2.setCell ⟨X, 11, none⟩ (.int .i64 (r.ct.jobs + 1))).drew.heap.size = w.heap.size + 2 from hz3]; omega))
      have HK3 := hide hK3
      have HE3 := hide hE3
      have HF3 := hide hF3
      clear hK hE hJ hB hK3 hE3 hF3
      go_wp2_with fail
      apply wp_someW (fun (w3 : World) => ∃ v' hs', QueP w3 base X 8 ((xcs mu (.slice (some ⟨g, 0, none⟩) nt dc) lv qv c fed t { r.ct with jobs := r.ct.jobs + 1 }).setIfInBounds 8 v') 138 v' hs' ∧ hs'.Perm (hs ++ [⟨r.ct.jobs, p, m2 + du, m1⟩]) ∧ Fr (fun k => k = X ∨ qv.ownBlock = some k) (W2.setCell ⟨X, 11, none⟩ (.int .i64 (r.ct.jobs + 1))).drew w3 ∧ (v'.ownBlock = qv.ownBlock ∨ ∃ k, v'.ownBlock = some k ∧ (W2.setCell ⟨X, 11, none⟩ (.int .i64 (r.ct.jobs + 1))).drew.heap.size ≤ k))
      case h =>
        go_region_with (first
          | (go_at_call 132; refine HPUT.out.mono ?_; rintro e w3 ⟨rfl, hq⟩; have HQ3 := hide hq; clear hq))
        all_goals exact ⟨w3, HQ3.out, rfl, rfl⟩
      rintro w3 ⟨qv3, hs3, q3, p3, f3, o3⟩
      rw [xcs_q] at q3
      rw [show (W2.setCell ⟨X, 11, none⟩ (.int .i64 (r.ct.jobs + 1))).drew.heap.size = w.heap.size + 2 from hz3] at o3
      have hK4 : CoreP w3 base X mu (.slice (some ⟨g, 0, none⟩) nt dc) lv qv3 hs3 c fed t { r.ct with jobs := r.ct.jobs + 1 } := ⟨q3, ownsRow_same HK3.out.d fun k hk => f3.block k (ownsRow_lt HK3.out.d hk).2 (by
        rintro (e | e)
        · exact ownsRow_ne_blk HK3.out.d HK3.out.q.blk (by decide) (by rw [hk, e])
        · exact ownsRow_ne HK3.out.d HK3.out.q.row (by decide) hk e)⟩
      have hE4 : EvP w3 eb ev r.out := HE3.out.same fun k hk => f3.block k (ownsRow_lt HE3.out hk).2 (by
        rintro (e | e)
        · exact ownsRow_ne_blk HE3.out HK3.out.q.blk (by decide) (by rw [hk, e])
        · exact ownsRow_ne HE3.out HK3.out.q.row (by decide) hk e)
      have hF4 : Fr (fun k => k = X ∨ qv.ownBlock = some k ∨ ev.ownBlock = some k) w w3 := HF3.out.drew.trans f3 fun k _ e => e.imp id .inl
      have hO4 : qv3.ownBlock = qv.ownBlock ∨ ∃ k, qv3.ownBlock = some k ∧ w.heap.size ≤ k := o3.imp id fun ⟨k, e, hk⟩ => ⟨k, e, by omega⟩
      have HK4 := hide hK4
      have HE4 := hide hE4
      have HF4 := hide hF4
      have HO4 := hide hO4
      have HP4 : Hid (hs3.Perm (r.jobs ++ [⟨r.ct.jobs, p, m2 + du, m1⟩])) := p3.trans (HP.out.append_right _)
      clear q3 p3 f3 o3 hK4 hE4 hF4 hO4 HK3 HE3 HF3 HPUT c11 z11 j0 j1 j2 j3
      go_wp2
      go_ret
      rw [HT.out]
      exact ⟨qv3, hs3, ev, rfl, HK4.out, HP4.out, HE4.out, HF4.out, HO4.out, .inl rfl⟩

end Go.Proofs.YthloffgebebijaaGreat
