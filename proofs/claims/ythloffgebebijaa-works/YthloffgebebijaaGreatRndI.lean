/- RndI: the walks of the executive's calls: New, Feed, Run, Counts, each under its lock. -/
import Derived.Test.YthloffgebebijaaGreatRndH
import Derived.Test.YthloffgebebijaaGreatLocks
namespace Go.Proofs.YthloffgebebijaaGreat
open Go.RowKit Go.MuLone

theorem xcs_mu (mu mu' : Int) (dv lv qv : Value) (c : Cfg) (fed clock : Int) (ct : Ct) : (xcs mu dv lv qv c fed clock ct).setIfInBounds 0 (.int .i32 mu') = xcs mu' dv lv qv c fed clock ct := rfl
/-- The lock turns. -/
theorem ExecP.lock {w : World} {S : Nat → Prop} {base X : Nat} {mu mu' : Int} {x : Exs} {dv qv : Value} {L : Nat} {vs : List Value} {hs : List Jb} (h : ExecP w S base X mu x dv qv L vs hs) : ExecP (w.setCell ⟨X, 0, none⟩ (.int .i32 mu')) S base X mu' x dv qv L vs hs := by
  have hd : dv.ownBlock ≠ some X := ownsRow_ne_blk h.core.d h.core.q.blk (by decide)
  refine ⟨⟨⟨xcs_mu mu mu' dv _ qv x.cfg x.fed x.clock x.ct ▸ h.core.q.blk.set 0 _, rfl, h.core.q.row.same fun k e => heap_setCell_other w ⟨X, 0, none⟩ k _ (fun e' => h.core.q.ne (by rw [e, e'])), h.core.q.ne, h.core.q.heap⟩, ownsRow_same h.core.d fun k e => heap_setCell_other w ⟨X, 0, none⟩ k _ (fun e' => hd (by rw [e, e']))⟩, h.perm, h.lines.same fun k hk => heap_setCell_other _ ⟨X, 0, none⟩ k _ (fun e => h.lines.off h.core.q.blk (by decide) (by decide) (show X = L ∨ _ by simp only at e; subst e; exact hk)), h.sx, h.sl, h.sd, h.sq, h.sv⟩

/-- The executive x in memory, between its calls. -/
def Xec (w : World) (S : Nat → Prop) (base X : Nat) (x : Exs) : Prop := ∃ dv qv L vs hs, ExecP w S base X 0 x dv qv L vs hs
theorem Xec.same {w w' : World} {S : Nat → Prop} {base X : Nat} {x : Exs} (h : Xec w S base X x) (hk : ∀ k, S k → w'.heap[k]? = w.heap[k]?) : Xec w' S base X x := by
  obtain ⟨dv, qv, L, vs, hs, h⟩ := h
  exact ⟨dv, qv, L, vs, hs, h.same hk⟩
theorem Xec.mono {w : World} {S S' : Nat → Prop} {base X : Nat} {x : Exs} (h : Xec w S base X x) (hk : ∀ k, k < w.heap.size → S k → S' k) : Xec w S' base X x := by
  obtain ⟨dv, qv, L, vs, hs, h⟩ := h
  exact ⟨dv, qv, L, vs, hs, h.mono hk⟩

set_option maxRecDepth 100000 in
set_option maxHeartbeats 1600000 in
theorem xFeed_any (S : Nat → Prop) (base X : Nat) (N n t : Int) (x : Exs) (bv : Value) (bs : List Int) (w : World)
    (h : Xec w S base X x) (hb : BytV w S bv bs) (hbl : bs.length ≤ 140737488355328) (hbase : base ≤ w.heap.size) (hi : ExIn x N) :
    Calls Tryz.prog 39 #[.pointer (some ⟨X, 0, none⟩), .int .i64 n, .int .i64 t, bv] w fun e w' => e = .returned (.int .i64 (exFeed x n t bs).2) ∧ Xec w' (fun k => S k ∨ w.heap.size ≤ k) base X (exFeed x n t bs).1 ∧ Fr S w w' := by
  obtain ⟨dv, qv, L, vs, hs, h⟩ := h
  have hX := h.core.q.blk.lt
  have h0 : w.cell? ⟨X, 0, none⟩ = some (.int .i32 0) := h.core.q.blk.cell 0
  have f0 := h.core.q.blk.free 0
  have hF1 : Fr S w (w.setCell ⟨X, 0, none⟩ (.int .i32 1)) := Fr.set w X 0 _ h.sx
  have HS := hide (sFeed_any S base X L 1 N n t x dv qv bv vs hs bs (w.setCell ⟨X, 0, none⟩ (.int .i32 1)) h.lock (hb.fr hF1 fun _ e => e) hbl (by simpa using hbase) hi)
  have HF1 := hide hF1
  have HSX := hide h.sx
  clear h hF1 hb
  go_enter_defers Tryz.func39, Tryz.ntmps39
  go_wp2_with (go_at_call 68; refine (lock_free muLib ⟨X, 0, none⟩ _ h0 f0).mono ?_; rintro e w' ⟨rfl, rfl⟩)
  refine HS.out.mono ?_
  rintro e w2 ⟨rfl, ⟨qv2, vs2, hs2, x2⟩, f2⟩
  have HX2 := hide x2
  have HF2 := hide f2
  clear x2 f2
  go_wp2
  refine leaves_cons (f := 69) (args := #[.pointer (some ⟨X, 0, none⟩)]) (by simp) (by simp [go_sem]) ?_
  refine (unlock_deferred muLib ⟨X, 0, none⟩ .returning _ (HX2.out.core.q.blk.cell 0) (HX2.out.core.q.blk.free 0)).mono ?_
  rintro e u' w'' ⟨rfl, rfl, rfl⟩
  refine ⟨_, results_tmp rfl _ _ _, rfl, ⟨dv, qv2, L, vs2, hs2, HX2.out.lock.mono fun k hk h => h.imp id fun h => by simpa using h⟩, (HF1.out.trans HF2.out fun _ _ e => e).trans (Fr.set (X := fun k => k = X) w2 X 0 _ rfl) fun k _ e => by subst e; exact HSX.out⟩

set_option maxRecDepth 100000 in
set_option maxHeartbeats 1600000 in
theorem xRun_any (S : Nat → Prop) (base X : Nat) (N u : Int) (x : Exs) (w : World)
    (h : Xec w S base X x) (hbase : base ≤ w.heap.size) (hi : ExIn x N) :
    Calls Tryz.prog 41 #[.pointer (some ⟨X, 0, none⟩), .int .i64 u] w fun e w' => ∃ ev, e = .returned ev ∧ EvP w' w.heap.size ev (exRun u 3000 x).2 ∧ (∃ S', Xec w' S' base X (exRun u 3000 x).1 ∧ (∀ k, S' k → S k ∨ w.heap.size ≤ k) ∧ (∀ k, ev.ownBlock = some k → ¬ S' k)) ∧ Fr S w w' := by
  obtain ⟨dv, qv, L, vs, hs, h⟩ := h
  have hX := h.core.q.blk.lt
  have h0 : w.cell? ⟨X, 0, none⟩ = some (.int .i32 0) := h.core.q.blk.cell 0
  have f0 := h.core.q.blk.free 0
  have hF1 : Fr S w (w.setCell ⟨X, 0, none⟩ (.int .i32 1)) := Fr.set w X 0 _ h.sx
  have HS := hide (sRun_any S base X L 1 N u x dv qv vs hs (w.setCell ⟨X, 0, none⟩ (.int .i32 1)) h.lock (by simpa using hbase) hi)
  have HF1 := hide hF1
  have HSX := hide h.sx
  have hz1 : (w.setCell ⟨X, 0, none⟩ (.int .i32 1)).heap.size = w.heap.size := by simp
  have HZ1 := hide hz1
  clear h hF1 hz1
  go_enter_defers Tryz.func41, Tryz.ntmps41
  go_wp2_with (go_at_call 68; refine (lock_free muLib ⟨X, 0, none⟩ _ h0 f0).mono ?_; rintro e w' ⟨rfl, rfl⟩)
  refine HS.out.mono ?_
  rintro e w2 ⟨ev2, rfl, ⟨qv2, vs2, hs2, x2⟩, e2, v2, f2⟩
  rw [HZ1.out] at x2 e2 v2
  have HX2 := hide x2
  have HE2 := hide e2
  have HF2 : Hid (Fr S w w2) := HF1.out.trans f2 fun k hk h => h.elim id fun h => by have := HZ1.out; omega
  clear x2 e2 v2 f2
  go_wp2
  refine leaves_cons (f := 69) (args := #[.pointer (some ⟨X, 0, none⟩)]) (by simp) (by simp [go_sem]) ?_
  refine (unlock_deferred muLib ⟨X, 0, none⟩ .returning _ (HX2.out.core.q.blk.cell 0) (HX2.out.core.q.blk.free 0)).mono ?_
  rintro e u' w'' ⟨rfl, rfl, rfl⟩
  have hne : ev2.ownBlock ≠ some X := ownsRow_ne_blk HE2.out HX2.out.core.q.blk (by decide)
  refine ⟨_, results_tmp rfl _ _ _, ev2, rfl, HE2.out.same fun k hk => heap_setCell_other w2 ⟨X, 0, none⟩ k _ (fun e => hne (by rw [hk, e])), ⟨fun k => k = X ∨ k = L ∨ dv.ownBlock = some k ∨ qv2.ownBlock = some k ∨ ∃ v ∈ vs2, v.ownBlock = some k, ⟨dv, qv2, L, vs2, hs2, ?_⟩, ?_, ?_⟩, HF2.out.trans (Fr.set (X := fun k => k = X) w2 X 0 _ rfl) fun k _ e => by subst e; exact HSX.out⟩
  · have := HX2.out.lock (mu' := 0)
    exact ⟨this.core, this.perm, this.lines, .inl rfl, .inr (.inl rfl), fun k e => .inr (.inr (.inl e)), fun k e => .inr (.inr (.inr (.inl e))), fun k v hv e => .inr (.inr (.inr (.inr ⟨v, hv, e⟩)))⟩
  · rintro k (rfl | rfl | e | e | ⟨v, hv, e⟩)
    · exact HX2.out.sx
    · exact HX2.out.sl
    · exact HX2.out.sd k e
    · exact HX2.out.sq k e
    · exact HX2.out.sv k v hv e
  · rintro k hk (rfl | rfl | e | e | e)
    · exact hne hk
    · exact HX2.out.lines.offRow HE2.out (by decide) (by decide) hk (.inl rfl)
    · exact ownsRow_ne HE2.out HX2.out.core.d (by decide) hk e
    · exact ownsRow_ne HE2.out HX2.out.core.q.row (by decide) hk e
    · exact HX2.out.lines.offRow HE2.out (by decide) (by decide) hk (.inr e)

theorem info_counts : (Tryz.prog.info? 95).map (·.size) = some 9 := by kernel_rfl

set_option maxRecDepth 100000 in
set_option maxHeartbeats 1600000 in
theorem xCounts_any (S : Nat → Prop) (base X : Nat) (N : Int) (x : Exs) (w : World) (h : Xec w S base X x) (hi : ExIn x N) :
    Calls Tryz.prog 45 #[.pointer (some ⟨X, 0, none⟩)] w fun e w' => e = .returned (countsV x) ∧ Xec w' S base X x ∧ Fr (fun k => k = X) w w' := by
  obtain ⟨dv, qv, L, vs, hs, h⟩ := h
  obtain ⟨S0, hS0, hS1, h⟩ : ∃ S0 : Nat → Prop, (∀ k, S0 k → S k) ∧ (∀ k, S0 k → k < w.heap.size) ∧ ExecP w S0 base X 0 x dv qv L vs hs := ⟨fun k => S k ∧ k < w.heap.size, fun k e => e.1, fun k e => e.2, h.mono fun k hk e => ⟨e, hk⟩⟩
  have hX := h.core.q.blk.lt
  have h0 : w.cell? ⟨X, 0, none⟩ = some (.int .i32 0) := h.core.q.blk.cell 0
  have f0 := h.core.q.blk.free 0
  have hb0 : Below w.heap.size w (w.alloc (.cells #[.int .i64 0, .int .i64 0, .int .i64 0, .int .i64 0, .int .i64 0, .int .i64 0, .int .i64 0, .int .i64 0, .int .i64 0] 95)) := (Below.refl _ _).alloc (Nat.le_refl _) _
  have hb1 : Below w.heap.size (w.setCell ⟨X, 0, none⟩ (.int .i32 1)) ((w.setCell ⟨X, 0, none⟩ (.int .i32 1)).alloc (.cells #[.int .i64 0, .int .i64 0, .int .i64 0, .int .i64 0, .int .i64 0, .int .i64 0, .int .i64 0, .int .i64 0, .int .i64 0] 95)) := by
    have := (Below.refl (w.setCell ⟨X, 0, none⟩ (.int .i32 1)).heap.size (w.setCell ⟨X, 0, none⟩ (.int .i32 1))).alloc (Nat.le_refl _) (.cells #[.int .i64 0, .int .i64 0, .int .i64 0, .int .i64 0, .int .i64 0, .int .i64 0, .int .i64 0, .int .i64 0, .int .i64 0] 95)
    simpa using this
  have hH1 : ExecP ((w.setCell ⟨X, 0, none⟩ (.int .i32 1)).alloc (.cells #[.int .i64 0, .int .i64 0, .int .i64 0, .int .i64 0, .int .i64 0, .int .i64 0, .int .i64 0, .int .i64 0, .int .i64 0] 95)) S0 base X 1 x dv qv L vs hs := by
    have h1 : ExecP ((w.setCell ⟨X, 0, none⟩ (.int .i32 1)).alloc (.cells #[.int .i64 0, .int .i64 0, .int .i64 0, .int .i64 0, .int .i64 0, .int .i64 0, .int .i64 0, .int .i64 0, .int .i64 0] 95)) (fun k => S0 k ∧ k < w.heap.size) base X 1 x dv qv L vs hs := (h.lock.mono (S' := fun k => S0 k ∧ k < w.heap.size) fun k hk e => ⟨e, by simpa using hk⟩).same fun k hk => hb1.block k hk.2
    exact h1.mono fun k _ e => e.1
  have hR1 : Blk ((w.setCell ⟨X, 0, none⟩ (.int .i32 1)).alloc (.cells #[.int .i64 0, .int .i64 0, .int .i64 0, .int .i64 0, .int .i64 0, .int .i64 0, .int .i64 0, .int .i64 0, .int .i64 0] 95)) w.heap.size #[.int .i64 0, .int .i64 0, .int .i64 0, .int .i64 0, .int .i64 0, .int .i64 0, .int .i64 0, .int .i64 0, .int .i64 0] 95 := by
    have := Blk.new (w.setCell ⟨X, 0, none⟩ (.int .i32 1)) #[.int .i64 0, .int .i64 0, .int .i64 0, .int .i64 0, .int .i64 0, .int .i64 0, .int .i64 0, .int .i64 0, .int .i64 0] 95
    simpa using this
  have hF1 : Fr (fun k => k = X) w ((w.setCell ⟨X, 0, none⟩ (.int .i32 1)).alloc (.cells #[.int .i64 0, .int .i64 0, .int .i64 0, .int .i64 0, .int .i64 0, .int .i64 0, .int .i64 0, .int .i64 0, .int .i64 0] 95)) := (Fr.set (X := fun k => k = X) w X 0 _ rfl).then_below (by simpa using hb1)
  have HS := hide (sCounts_any S0 base X L 1 N x dv qv vs hs ((w.setCell ⟨X, 0, none⟩ (.int .i32 1)).alloc (.cells #[.int .i64 0, .int .i64 0, .int .i64 0, .int .i64 0, .int .i64 0, .int .i64 0, .int .i64 0, .int .i64 0, .int .i64 0] 95)) hH1 hi)
  have c0 : (w.alloc (.cells #[.int .i64 0, .int .i64 0, .int .i64 0, .int .i64 0, .int .i64 0, .int .i64 0, .int .i64 0, .int .i64 0, .int .i64 0] 95)).cell? ⟨X, 0, none⟩ = some (.int .i32 0) := (hb0.cell (p := ⟨X, 0, none⟩) hX).trans h0
  have c0f : (w.alloc (.cells #[.int .i64 0, .int .i64 0, .int .i64 0, .int .i64 0, .int .i64 0, .int .i64 0, .int .i64 0, .int .i64 0, .int .i64 0] 95)).frozen? ⟨X, 0, none⟩ = false := (h.core.q.blk.later hb0 hX).free 0
  have hz1 : ((w.setCell ⟨X, 0, none⟩ (.int .i32 1)).alloc (.cells #[.int .i64 0, .int .i64 0, .int .i64 0, .int .i64 0, .int .i64 0, .int .i64 0, .int .i64 0, .int .i64 0, .int .i64 0] 95)).heap.size = w.heap.size + 1 := by simp
  have HH1 := hide hH1
  have HR1 := hide hR1
  have HF1 := hide hF1
  have HZ1 := hide hz1
  clear h hb0 hb1 hH1 hR1 hF1 hz1
  go_enter_defers Tryz.func45, Tryz.ntmps45
  go_wp2_with (go_at_call 68; refine (lock_free muLib ⟨X, 0, none⟩ _ c0 c0f).mono ?_; rintro e w' ⟨rfl, rfl⟩)
  refine HS.out.mono ?_
  rintro e w2 ⟨rfl, q2⟩
  have hH2 : ExecP w2 S0 base X 1 x dv qv L vs hs := by
    have h1 : ExecP w2 (fun k => S0 k ∧ k < ((w.setCell ⟨X, 0, none⟩ (.int .i32 1)).alloc (.cells #[.int .i64 0, .int .i64 0, .int .i64 0, .int .i64 0, .int .i64 0, .int .i64 0, .int .i64 0, .int .i64 0, .int .i64 0] 95)).heap.size) base X 1 x dv qv L vs hs := (HH1.out.mono (S' := fun k => S0 k ∧ k < ((w.setCell ⟨X, 0, none⟩ (.int .i32 1)).alloc (.cells #[.int .i64 0, .int .i64 0, .int .i64 0, .int .i64 0, .int .i64 0, .int .i64 0, .int .i64 0, .int .i64 0, .int .i64 0] 95)).heap.size) fun k hk e => ⟨e, hk⟩).same fun k hk => q2.block k hk.2
    exact h1.mono fun k _ e => e.1
  have hR2 : Blk w2 w.heap.size #[.int .i64 0, .int .i64 0, .int .i64 0, .int .i64 0, .int .i64 0, .int .i64 0, .int .i64 0, .int .i64 0, .int .i64 0] 95 := HR1.out.later q2 (by rw [HZ1.out]; omega)
  have hF2 : Fr (fun k => k = X) w w2 := HF1.out.then_below q2
  have HTH := hide (hR2.there (n := 9) (by simp))
  have HALL : Hid ((#[.int .i64 x.clock, .int .i64 x.ct.jobs, .int .i64 x.ct.done, .int .i64 x.jobs.length, .int .i64 x.ct.lost, .int .i64 x.ct.unknown, .int .i64 x.ct.bad, .int .i64 x.ct.spilled, .int .i64 (held x.lines)] : Array Value).all (·.oneCell') = true) := all_oneCell_toArray (cs := [.int .i64 x.clock, .int .i64 x.ct.jobs, .int .i64 x.ct.done, .int .i64 x.jobs.length, .int .i64 x.ct.lost, .int .i64 x.ct.unknown, .int .i64 x.ct.bad, .int .i64 x.ct.spilled, .int .i64 (held x.lines)]) (by simp [Value.oneCell'])
  have HH2 := hide hH2
  have HR2 := hide hR2
  have HF2 := hide hF2
  clear q2 hH2 hR2 hF2
  have HCV : Hid (countsV x = countsV x) := rfl
  simp only [countsV]
  generalize hhd : held x.lines = hd at *
  have HHD := hide hhd
  clear hhd
  repeat (first
    | (refine wpList_store_mid (by rfl) 95 (.tmp 2) (.tmp 13) (by rfl) w.heap.size 0 #[.int .i64 x.clock, .int .i64 x.ct.jobs, .int .i64 x.ct.done, .int .i64 x.jobs.length, .int .i64 x.ct.lost, .int .i64 x.ct.unknown, .int .i64 x.ct.bad, .int .i64 x.ct.spilled, .int .i64 hd] (by rfl) (by rfl) HTH.out info_counts HALL.out ?_)
    | go_values | go_skip | go_guarded | go_step | go_upon)
  have HRG : (w2.setCells w.heap.size 0 [.int .i64 x.clock, .int .i64 x.ct.jobs, .int .i64 x.ct.done, .int .i64 x.jobs.length, .int .i64 x.ct.lost, .int .i64 x.ct.unknown, .int .i64 x.ct.bad, .int .i64 x.ct.spilled, .int .i64 hd]).rangeAt w.heap.size 0 [.int .i64 x.clock, .int .i64 x.ct.jobs, .int .i64 x.ct.done, .int .i64 x.jobs.length, .int .i64 x.ct.lost, .int .i64 x.ct.unknown, .int .i64 x.ct.bad, .int .i64 x.ct.spilled, .int .i64 hd] := World.rangeAt_setCells_same w2 w.heap.size 0 _ HTH.out
  have hko : ∀ k, k ≠ w.heap.size → (w2.setCells w.heap.size 0 [.int .i64 x.clock, .int .i64 x.ct.jobs, .int .i64 x.ct.done, .int .i64 x.jobs.length, .int .i64 x.ct.lost, .int .i64 x.ct.unknown, .int .i64 x.ct.bad, .int .i64 x.ct.spilled, .int .i64 hd]).heap[k]? = w2.heap[k]? := fun k hk => heap_setCells_other w.heap.size k hk _ _ _
  have hF3 : Fr (fun k => k = X) w (w2.setCells w.heap.size 0 [.int .i64 x.clock, .int .i64 x.ct.jobs, .int .i64 x.ct.done, .int .i64 x.jobs.length, .int .i64 x.ct.lost, .int .i64 x.ct.unknown, .int .i64 x.ct.bad, .int .i64 x.ct.spilled, .int .i64 hd]) := by
    have hs := Below.setCells (B := w.heap.size) (a := w2) (b := w.heap.size) (Nat.le_refl _) [.int .i64 x.clock, .int .i64 x.ct.jobs, .int .i64 x.ct.done, .int .i64 x.jobs.length, .int .i64 x.ct.lost, .int .i64 x.ct.unknown, .int .i64 x.ct.bad, .int .i64 x.ct.spilled, .int .i64 hd] 0 w2 (Below.refl _ _)
    exact ⟨hs.os.trans HF2.out.os, hs.tape.trans HF2.out.tape, hs.output.trans HF2.out.output, Nat.le_trans HF2.out.size hs.size, fun k hk hn => (hs.block k hk).trans (HF2.out.block k hk hn)⟩
  have hX3 : ExecP (w2.setCells w.heap.size 0 [.int .i64 x.clock, .int .i64 x.ct.jobs, .int .i64 x.ct.done, .int .i64 x.jobs.length, .int .i64 x.ct.lost, .int .i64 x.ct.unknown, .int .i64 x.ct.bad, .int .i64 x.ct.spilled, .int .i64 hd]) S0 base X 1 x dv qv L vs hs := HH2.out.same fun k hk => hko k (by have := hS1 k hk; omega)
  have hR3 : ((w2.setCells w.heap.size 0 [.int .i64 x.clock, .int .i64 x.ct.jobs, .int .i64 x.ct.done, .int .i64 x.jobs.length, .int .i64 x.ct.lost, .int .i64 x.ct.unknown, .int .i64 x.ct.bad, .int .i64 x.ct.spilled, .int .i64 hd]).setCell ⟨X, 0, none⟩ (.int .i32 0)).rangeAt w.heap.size 0 [.int .i64 x.clock, .int .i64 x.ct.jobs, .int .i64 x.ct.done, .int .i64 x.jobs.length, .int .i64 x.ct.lost, .int .i64 x.ct.unknown, .int .i64 x.ct.bad, .int .i64 x.ct.spilled, .int .i64 hd] := fun j v hj => by
    rw [World.cell?_setCell_other _ _ _ _ (by simp <;> omega)]
    exact HRG j v hj
  have hld := run_loadVar_mid (P := Tryz.prog) ((w2.setCells w.heap.size 0 [.int .i64 x.clock, .int .i64 x.ct.jobs, .int .i64 x.ct.done, .int .i64 x.jobs.length, .int .i64 x.ct.lost, .int .i64 x.ct.unknown, .int .i64 x.ct.bad, .int .i64 x.ct.spilled, .int .i64 hd]).setCell ⟨X, 0, none⟩ (.int .i32 0)) w.heap.size 0 95 [.int .i64 x.clock, .int .i64 x.ct.jobs, .int .i64 x.ct.done, .int .i64 x.jobs.length, .int .i64 x.ct.lost, .int .i64 x.ct.unknown, .int .i64 x.ct.bad, .int .i64 x.ct.spilled, .int .i64 hd] _ hR3 Tryz.underlying95 (by rfl) info_counts
  generalize w2.setCells w.heap.size 0 [.int .i64 x.clock, .int .i64 x.ct.jobs, .int .i64 x.ct.done, .int .i64 x.jobs.length, .int .i64 x.ct.lost, .int .i64 x.ct.unknown, .int .i64 x.ct.bad, .int .i64 x.ct.spilled, .int .i64 hd] = WF at *
  refine leaves_cons (f := 69) (args := #[.pointer (some ⟨X, 0, none⟩)]) (by simp) (by simp [go_sem]) ?_
  refine (unlock_deferred muLib ⟨X, 0, none⟩ .returning _ (hX3.core.q.blk.cell 0) (hX3.core.q.blk.free 0)).mono ?_
  rintro e u' w'' ⟨rfl, rfl, rfl⟩
  refine ⟨_, results_cell Tryz.results45 (by rfl) hld, by rw [countsV, HHD.out], ⟨dv, qv, L, vs, hs, hX3.lock.mono fun k _ e => hS0 k e⟩, hF3.trans (Fr.set (X := fun k => k = X) WF X 0 _ rfl) fun _ _ e => e⟩

end Go.Proofs.YthloffgebebijaaGreat
