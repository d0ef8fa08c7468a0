/- WhoB: what stands at each place of tillerkeep.Whole, and what its calls make of it. -/
import Derived.Test.YthloffgebebijaaComD
namespace Go.Proofs.Ythloffgebebijaa
open Go.RowKit Go.MuLone

/-- The cells of an event in a row of the call's own. -/
theorem EvP.at {w : World} {base : Nat} {v : Value} {d : List Ev} (p : EvP w base v d) {i : Nat} {ev : Ev} (hev : d[i]? = some ev) : ∃ dg dc, v = .slice (some ⟨dg, 0, none⟩) d.length dc ∧ dg < w.heap.size ∧ base ≤ dg ∧ w.cell? ⟨dg, i * 5, none⟩ = some (.int .i64 ev.kind) ∧ w.cell? ⟨dg, i * 5 + 1, none⟩ = some (.int .i64 ev.tick) ∧ w.cell? ⟨dg, i * 5 + 2, none⟩ = some (.int .i64 ev.job) ∧ w.cell? ⟨dg, i * 5 + 3, none⟩ = some (.int .i64 ev.task) ∧ w.cell? ⟨dg, i * 5 + 4, none⟩ = some (.int .i64 ev.deadline) := by
  have hil := lt_of_get hev
  obtain ⟨dg, dcap, hdg, -, -⟩ := ownsRow_some p (by omega)
  subst hdg
  refine ⟨dg, dcap, rfl, (ownsRow_lt p (k := dg) rfl).2, (ownsRow_lt p (k := dg) rfl).1, ?_⟩
  have h5 : ∀ c ∈ d.map evCells, c.length = 5 := by
    intro c hc
    obtain ⟨j, _, rfl⟩ := List.mem_map.1 hc
    rfl
  have hc : ∀ j v, j < 5 → (evCells ev)[j]? = some v → w.cell? ⟨dg, i * 5 + j, none⟩ = some v := fun j v hj hv => by
    have hg : (erow d)[i * 5 + j]? = some v := by
      rw [erow, flatten_get h5 i j hj, List.getElem?_map, hev]
      exact hv
    have h1 := World.ownsRow.cells (g := dg) p (by rfl) (i * 5 + j) _ hg
    rw [Addr.add] at h1
    split at h1
    · rename_i h0; rw [h0]; exact h1
    · simpa using h1
  exact ⟨hc 0 _ (by decide) rfl, hc 1 _ (by decide) rfl, hc 2 _ (by decide) rfl, hc 3 _ (by decide) rfl, hc 4 _ (by decide) rfl⟩

/-- Where one is in the events: between two, or at the end of a job that was begun. -/
def AtE (c : Cfg) (EE : List Ev) (i : Nat) (e : Int) : Prop :=
  (∃ e', WfE c e (EE.drop i) e') ∨ ∃ d b, EE[i]? = some d ∧ d.kind = 2 ∧ 0 < i ∧ EE[i - 1]? = some b ∧ b.kind = 1 ∧ ∃ e', WfE c e (EE.drop (i + 1)) e'
theorem AtE.next {c : Cfg} {EE : List Ev} {i : Nat} {e : Int} {d : Ev} (h : AtE c EE i e) (hd : EE[i]? = some d) :
    (d.kind = 1 ∧ e + c.poll ≤ d.tick ∧ ∃ x, EE[i + 1]? = some x ∧ x.kind = 2 ∧ x.job = d.job ∧ x.task = d.task ∧ x.deadline = d.deadline ∧ d.tick + c.sw < x.tick ∧ AtE c EE (i + 1) x.tick) ∨
    (d.kind = 2 ∧ 0 < i ∧ (∃ b, EE[i - 1]? = some b ∧ b.kind = 1) ∧ AtE c EE (i + 1) e) ∨
    (d.kind = 3 ∧ e ≤ d.tick ∧ d.job = -1 ∧ AtE c EE (i + 1) e) := by
  rcases h with ⟨e', h⟩ | ⟨d', b, h1, h2, h3, h4, h5, h6⟩
  · have hl := lt_of_get hd
    have hdr : EE.drop i = d :: EE.drop (i + 1) := by
      rw [List.drop_eq_getElem_cons hl]
      rw [List.getElem?_eq_getElem hl] at hd
      simp at hd
      rw [hd]
    rw [hdr] at h
    generalize hr : EE.drop (i + 1) = r at h
    rcases h.parts with ⟨a1, a2, a3, a4⟩ | ⟨x, es, rfl, a1, a2, a3, a4, a5, a6, a7, a8⟩
    · exact .inr (.inr ⟨a1, a2, a3, .inl ⟨e', by rw [hr]; exact a4⟩⟩)
    · left
      have hx : EE[i + 1]? = some x := by
        have := congrArg (·[0]?) hr
        simpa using this
      refine ⟨a1, a2, x, hx, a3, a4, a5, a6, a7, .inr ⟨x, d, hx, a3, by omega, by simpa using hd, a1, e', ?_⟩⟩
      have : EE.drop (i + 1 + 1) = es := by
        rw [← List.drop_drop, hr]
        rfl
      rw [this]
      exact a8
  · rw [hd] at h1
    cases h1
    exact .inr (.inl ⟨h2, h3, ⟨b, h4, h5⟩, .inl h6⟩)

theorem begs_take {EE : List Ev} {i : Nat} {d : Ev} (hd : EE[i]? = some d) : begs (EE.take (i + 1)) = begs (EE.take i) ++ (if d.kind = 1 then [d] else []) := by
  rw [take_snoc hd, begs_append]
  congr 1
  by_cases h : d.kind = 1 <;> simp [begs, h]

/-- What stands in Whole's first loop, q messages gone through. -/
structure WhS (V w : World) (H X : Nat) (c : Cfg) (tv : Value) (q : Nat) : Prop where
  hou : ∃ h N, CmP V w (fun _ => False) H X c tv h ∧ HsIn c N h ∧ N ≤ 4 * (q : Int) ∧ WhP c h.x h.done ∧ h.sent.length ≤ q
theorem WhS.later {V w w' : World} {H X : Nat} {c : Cfg} {tv : Value} {q : Nat} (p : WhS V w H X c tv q) (hb : Below w.heap.size w w') : WhS V w' H X c tv q := by
  obtain ⟨h, N, p1, r⟩ := p
  exact ⟨h, N, p1.later hb, r⟩
theorem WhS.bel {V w : World} {H X : Nat} {c : Cfg} {tv : Value} {q : Nat} (p : WhS V w H X c tv q) : Below V.heap.size V w := by
  obtain ⟨h, N, p1, r⟩ := p
  exact p1.bel
theorem WhS.comes {V w : World} {H X n scap sb so : Nat} {c : Cfg} {q : Nat} (hn : c.tasks.length = n) (p : WhS V w H X c (.slice (some ⟨sb, so, none⟩) n scap) q) (hq : q < 60) (hsb : sb < V.heap.size) (ht : ∀ i t, c.tasks[i]? = some t → TaskAt V V.heap.size sb (so + i * 3) t) (hok : cfgOk c = true) {o : Come5} (hf : o.fits) :
    Calls Try.prog 18 #[.pointer (some ⟨H, 0, none⟩), .agg #[.int .i64 o.task, .int .i64 o.gap, .int .i64 o.line, .int .i64 o.cost, .bool o.split], .bool false] w fun e w' => e = .returned (.bool true) ∧ WhS V w' H X c (.slice (some ⟨sb, so, none⟩) n scap) (q + 1) := by
  obtain ⟨h, N, p1, p2, p3, p4, p5⟩ := p
  refine (comes_any V H X n scap sb so c false o h N w hn p1 hsb ht p2 hok (by omega) (by omega) hf (by simp)).mono ?_
  rintro e w' ⟨rfl, p'⟩
  have hw := comes_wh (tame := false) (o := o) p2 p4
  have hs : (Go.Proofs.Ythloffgebebijaa.comes false c o h).sent.length ≤ q + 1 := by
    have hwi := waits_in (tame := false) (k := kOf c o) 400 (a := h.last + pk o.gap 60) p2 (by have := pk_lo o.gap 60 (by decide); omega) (by have := pk_hi o.gap 60 (by decide); have := p2.l1; omega)
    unfold Go.Proofs.Ythloffgebebijaa.comes
    simp only
    split
    · rw [hwi.2.2.2.1]; omega
    · have : ∀ g a, (sends false c o g a).sent = g.sent ++ [(kOf c o, a)] := by
        intro g a
        simp only [sends]
        split <;> rfl
      rw [this, List.length_append, hwi.2.2.2.1]
      simp; omega
  rcases comes_in (tame := false) (o := o) p2 with hi | hi
  · exact ⟨rfl, ⟨_, N, p', hi, by omega, hw, hs⟩⟩
  · exact ⟨rfl, ⟨_, N + 4, p', hi, by omega, hw, hs⟩⟩

/-- What stands when all has run to its end: the events. -/
structure WhE (V w : World) (H : Nat) (c : Cfg) (EE : List Ev) (dv : Value) : Prop where
  hl : H < w.heap.size
  cl : w.cell? ⟨H, 9, none⟩ = some dv
  ev : EvP w V.heap.size dv EE
  at0 : AtE c EE 0 0
  ord : (begs EE).Pairwise (RBB c)
  ein : ∀ e ∈ EE, EvIn c e
  len : EE.length ≤ 120000
  bel : Below V.heap.size V w
theorem WhS.run {V w : World} {H X : Nat} {c : Cfg} {tv : Value} {q : Nat} (p : WhS V w H X c tv q) (hq : q ≤ 60) :
    Calls Try.prog 16 #[.pointer (some ⟨H, 0, none⟩), .int .i64 3000] w fun e w' => e = .returned (.tuple #[]) ∧ ∃ EE dv, WhE V w' H c EE dv := by
  obtain ⟨h, N, p1, p2, p3, p4, p5⟩ := p
  refine (p1.run (u := 3000) p2 (by omega)).mono ?_
  rintro e w' ⟨rfl, p', -⟩
  have hw : WhP c (h.run 3000).x (h.run 3000).done := exRun_wh 3000 3000 p4 p2.ex
  have hi := p2.run 3000
  obtain ⟨⟨S, sv, dv, m1, m2, m3, m4, m5⟩, mz, mh, mb⟩ := p'
  have hl := hi.dl
  have hk := hi.ex.ck1
  obtain ⟨e', hwf, -⟩ := hw.wf
  exact ⟨rfl, _, dv, ⟨m1.blk.lt, m1.blk.cell 9, m1.ev, .inl ⟨e', hwf⟩, hw.ord, hw.ev, by omega, mb⟩⟩

/-- A house that was opened. -/
theorem CmP.opened {V w : World} {S : Nat → Prop} {H X : Nat} {c : Cfg} {tv : Value} (p : HouP w S V.heap.size H X (exNew c) c tv 0 (.slice none 0 0) (.slice none 0 0) []) (hs : ∀ k, S k → V.heap.size ≤ k) (hH : V.heap.size ≤ H) (hb : Below V.heap.size V w) : CmP V w (fun _ => False) H X c tv ⟨exNew c, 0, [], []⟩ :=
  ⟨⟨fun k => S k ∧ k < w.heap.size, .slice none 0 0, .slice none 0 0, ⟨p.blk, p.xec.mono fun k hk e => ⟨e, hk⟩, p.ev, fun e => p.nh e.1, fun k hk e => p.nd k hk e.1, ⟨p.nx, p.xec.lt.1⟩⟩, World.ownsRow_nil _ _ _ _, fun k hk => ⟨hs k hk.1, hk.2⟩, fun k hk => by simp [Value.ownBlock] at hk, fun k e => e.elim⟩, fun k e => e.elim, hH, hb⟩
theorem WhS.opened {V w : World} {S : Nat → Prop} {H X : Nat} {c : Cfg} {tv : Value} (p : HouP w S V.heap.size H X (exNew c) c tv 0 (.slice none 0 0) (.slice none 0 0) []) (hs : ∀ k, S k → V.heap.size ≤ k) (hH : V.heap.size ≤ H) (hb : Below V.heap.size V w) (hok : cfgOk c = true) : WhS V w H X c tv 0 :=
  ⟨⟨_, 0, CmP.opened p hs hH hb, ⟨exNew_in hok, rfl, Int.le_refl _, Int.le_refl _, by simp only; omega, by simp [exNew], by simp⟩, by omega, exNew_wh c, by simp⟩⟩

/-- Messages that come, in memory. -/
def ComeAt (w : World) (b o : Nat) (r : Come5) : Prop :=
  w.cell? ⟨b, o, none⟩ = some (.int .i64 r.task) ∧ w.cell? ⟨b, o + 1, none⟩ = some (.int .i64 r.gap) ∧ w.cell? ⟨b, o + 2, none⟩ = some (.int .i64 r.line) ∧ w.cell? ⟨b, o + 3, none⟩ = some (.int .i64 r.cost) ∧ w.cell? ⟨b, o + 4, none⟩ = some (.bool r.split)
def ComesR (w : World) (B : Nat) (v : Value) (rs : List Come5) : Prop :=
  ∃ a cap, v = .slice a rs.length cap ∧ (rs = [] ∨ ∃ b o, a = some ⟨b, o, none⟩ ∧ b < B ∧ ∀ i r, rs[i]? = some r → ComeAt w b (o + i * 5) r)
theorem ComeAt.later {w w' : World} {B b o : Nat} {r : Come5} (h : ComeAt w b o r) (hb : Below B w w') (hlt : b < B) : ComeAt w' b o r := by
  obtain ⟨h0, h1, h2, h3, h4⟩ := h
  exact ⟨(hb.cell (p := ⟨b, o, none⟩) hlt).trans h0, (hb.cell (p := ⟨b, o + 1, none⟩) hlt).trans h1, (hb.cell (p := ⟨b, o + 2, none⟩) hlt).trans h2, (hb.cell (p := ⟨b, o + 3, none⟩) hlt).trans h3, (hb.cell (p := ⟨b, o + 4, none⟩) hlt).trans h4⟩

end Go.Proofs.Ythloffgebebijaa
