/- ComC: what stands at each place of tillerkeep's comes, and what its calls make of it. -/
import Derived.Test.YthloffgebebijaaComB
namespace Go.Proofs.Ythloffgebebijaa
open Go.RowKit Go.MuLone

def oCells (o : Come5) : Array Value := #[.int .i64 o.task, .int .i64 o.gap, .int .i64 o.line, .int .i64 o.cost, .bool o.split]
/-- What soonest is held to. -/
def SoonOk (V : World) (H X : Nat) (c : Cfg) (tv : Value) (k : Int) : Prop :=
  ∀ (w : World) (Z : Nat → Prop) (h : Hs) (t : Int), CmP V w Z H X c tv h → (∀ s ∈ h.sent, 0 ≤ s.2 ∧ s.2 < 900) → h.sent.length ≤ 1000000 → 0 ≤ t → t ≤ 5000 →
    Calls Try.prog 30 #[.pointer (some ⟨H, 0, none⟩), .int .i64 k, .int .i64 t] w fun e w' => e = .returned (.int .i64 (soonI c h.sent k t)) ∧ CmP V w' Z H X c tv h ∧ Kp Z w w'

/-- The house, and the box of what comes. -/
structure CoP (V w : World) (bx H X : Nat) (c : Cfg) (tv : Value) (o : Come5) (h : Hs) : Prop where
  cm : CmP V w (fun k => k = bx) H X c tv h
  bk : Blk w bx (oCells o) 58
theorem CoP.later {V w w' : World} {bx H X : Nat} {c : Cfg} {tv : Value} {o : Come5} {h : Hs} (p : CoP V w bx H X c tv o h) (hb : Below w.heap.size w w') : CoP V w' bx H X c tv o h := ⟨p.cm.later hb, p.bk.later hb p.bk.lt⟩
theorem CoP.quiet {V w : World} {bx H X : Nat} {c : Cfg} {tv : Value} {o : Come5} {h : Hs} (p : CoP V w bx H X c tv o h) (n : Nat) : CoP V (w.drewN n) bx H X c tv o h := p.later (below_drewN (Below.refl _ _) n)
theorem CoP.kept {V w w' : World} {bx H X : Nat} {c : Cfg} {tv : Value} {o : Come5} {h h' : Hs} (p : CoP V w bx H X c tv o h) (q : CmP V w' (fun k => k = bx) H X c tv h') (k : Kp (fun k => k = bx) w w') : CoP V w' bx H X c tv o h' := ⟨q, (k bx rfl).trans p.bk⟩
theorem CoP.cells {V w : World} {bx H X : Nat} {c : Cfg} {tv : Value} {o : Come5} {h : Hs} (p : CoP V w bx H X c tv o h) : (H < w.heap.size ∧ w.cell? ⟨H, 0, none⟩ = some (.int .i64 c.lines) ∧ w.cell? ⟨H, 5, none⟩ = some tv ∧ w.cell? ⟨H, 6, none⟩ = some (.pointer (some ⟨X, 0, none⟩)) ∧ w.cell? ⟨H, 7, none⟩ = some (.int .i64 h.last)) ∧ bx < w.heap.size ∧ w.cell? ⟨bx, 0, none⟩ = some (.int .i64 o.task) ∧ w.cell? ⟨bx, 1, none⟩ = some (.int .i64 o.gap) ∧ w.cell? ⟨bx, 2, none⟩ = some (.int .i64 o.line) ∧ w.cell? ⟨bx, 3, none⟩ = some (.int .i64 o.cost) ∧ w.cell? ⟨bx, 4, none⟩ = some (.bool o.split) :=
  ⟨p.cm.cells, p.bk.lt, p.bk.cell 0, p.bk.cell 1, p.bk.cell 2, p.bk.cell 3, p.bk.cell 4⟩
theorem CoP.clock {V w : World} {bx H X : Nat} {c : Cfg} {tv : Value} {o : Come5} {h : Hs} (p : CoP V w bx H X c tv o h) {N : Int} (hi : HsIn c N h) :
    Calls Try.prog 14 #[.pointer (some ⟨H, 0, none⟩)] w fun r w' => r = .returned (.int .i64 h.x.clock) ∧ CoP V w' bx H X c tv o h :=
  (p.cm.clock hi.ex).mono fun _ _ ⟨e, q, k⟩ => ⟨e, p.kept q k⟩
theorem CoP.counts {V w : World} {bx H X : Nat} {c : Cfg} {tv : Value} {o : Come5} {h : Hs} (p : CoP V w bx H X c tv o h) {N : Int} (hi : HsIn c N h) :
    Calls Try.prog 17 #[.pointer (some ⟨X, 0, none⟩)] w fun r w' => r = .returned (countsV h.x) ∧ CoP V w' bx H X c tv o h :=
  (p.cm.counts hi.ex).mono fun _ _ ⟨e, q, k⟩ => ⟨e, p.kept q k⟩
theorem CoP.run {V w : World} {bx H X : Nat} {c : Cfg} {tv : Value} {o : Come5} {h : Hs} (p : CoP V w bx H X c tv o h) {N u : Int} (hi : HsIn c N h) (hN : N ≤ 700000000000000) :
    Calls Try.prog 16 #[.pointer (some ⟨H, 0, none⟩), .int .i64 u] w fun r w' => r = .returned (.tuple #[]) ∧ CoP V w' bx H X c tv o (h.run u) :=
  (p.cm.run hi (by omega)).mono fun _ _ ⟨e, q, k⟩ => ⟨e, p.kept q k⟩
theorem CoP.soon {V w : World} {bx H X : Nat} {c : Cfg} {tv : Value} {o : Come5} {h : Hs} (p : CoP V w bx H X c tv o h) {N k t : Int} (hi : HsIn c N h) (hS : SoonOk V H X c tv k) (hl : h.sent.length ≤ 1000000) (h0 : 0 ≤ t) (h1 : t ≤ 5000) :
    Calls Try.prog 30 #[.pointer (some ⟨H, 0, none⟩), .int .i64 k, .int .i64 t] w fun r w' => r = .returned (.int .i64 (soonI c h.sent k t)) ∧ CoP V w' bx H X c tv o h :=
  (hS w _ h t p.cm hi.st hl h0 h1).mono fun _ _ ⟨e, q, k⟩ => ⟨e, p.kept q k⟩

/-- The message's bytes beside it. -/
structure CoM (V w : World) (bx g H X : Nat) (c : Cfg) (tv : Value) (o : Come5) (bs : List Int) (h : Hs) : Prop where
  cm : CmP V w (fun k => k = bx ∨ k = g) H X c tv h
  bk : Blk w bx (oCells o) 58
  bg : Blk w g (bs.map (Value.int .u8)).toArray 5
theorem CoP.message {V w w' : World} {bx g H X : Nat} {c : Cfg} {tv : Value} {o : Come5} {bs : List Int} {h : Hs} (p : CoP V w bx H X c tv o h) (hb : Below w.heap.size w w') (h0 : w.heap.size ≤ g) (hg : Blk w' g (bs.map (Value.int .u8)).toArray 5) : CoM V w' bx g H X c tv o bs h := ⟨p.cm.beside hb h0 hg.lt, p.bk.later hb p.bk.lt, hg⟩
theorem CoM.cells {V w : World} {bx g H X : Nat} {c : Cfg} {tv : Value} {o : Come5} {bs : List Int} {h : Hs} (p : CoM V w bx g H X c tv o bs h) : (H < w.heap.size ∧ w.cell? ⟨H, 0, none⟩ = some (.int .i64 c.lines) ∧ w.cell? ⟨H, 5, none⟩ = some tv ∧ w.cell? ⟨H, 6, none⟩ = some (.pointer (some ⟨X, 0, none⟩)) ∧ w.cell? ⟨H, 7, none⟩ = some (.int .i64 h.last)) ∧ bx < w.heap.size ∧ g < w.heap.size ∧ w.cell? ⟨bx, 4, none⟩ = some (.bool o.split) := ⟨p.cm.cells, p.bk.lt, p.bg.lt, p.bk.cell 4⟩
theorem CoM.later {V w w' : World} {bx g H X : Nat} {c : Cfg} {tv : Value} {o : Come5} {bs : List Int} {h : Hs} (p : CoM V w bx g H X c tv o bs h) (hb : Below w.heap.size w w') : CoM V w' bx g H X c tv o bs h := ⟨p.cm.later hb, p.bk.later hb p.bk.lt, p.bg.later hb p.bg.lt⟩
theorem CoM.clock {V w : World} {bx g H X : Nat} {c : Cfg} {tv : Value} {o : Come5} {bs : List Int} {h : Hs} (p : CoM V w bx g H X c tv o bs h) {N : Int} (hi : HsIn c N h) :
    Calls Try.prog 14 #[.pointer (some ⟨H, 0, none⟩)] w fun r w' => r = .returned (.int .i64 h.x.clock) ∧ CoM V w' bx g H X c tv o bs h :=
  (p.cm.clock hi.ex).mono fun _ _ ⟨e, q, k⟩ => ⟨e, q, (k bx (.inl rfl)).trans p.bk, (k g (.inr rfl)).trans p.bg⟩
/-- A part of the bytes, from the place i on. -/
theorem CoM.feed {V w : World} {bx g H X : Nat} {c : Cfg} {tv : Value} {o : Come5} {bs : List Int} {h : Hs} (p : CoM V w bx g H X c tv o bs h) {N n t : Int} (hi : ExIn h.x N) (hN : N ≤ 700000000000000) (i m cap : Nat) (hm : m ≤ cap) (hl : i + m ≤ bs.length) (hs : bs.length ≤ 100) :
    Calls Try.prog 15 #[.pointer (some ⟨X, 0, none⟩), .int .i64 n, .int .i64 t, .slice (some ⟨g, i, none⟩) m cap] w fun r w' => r = .returned (.int .i64 (exFeed h.x n t ((bs.drop i).take m)).2) ∧ CoM V w' bx g H X c tv o bs (h.feed n t ((bs.drop i).take m)) := by
  have hlen : ((bs.drop i).take m).length = m := by rw [List.length_take, List.length_drop]; omega
  refine (p.cm.feed hi (by omega) (n := n) (t := t) (bv := .slice (some ⟨g, i, none⟩) m cap) (bs := (bs.drop i).take m) ?_ (by omega)).mono fun _ _ ⟨e, q, k⟩ => ⟨e, q, (k bx (.inl rfl)).trans p.bk, (k g (.inr rfl)).trans p.bg⟩
  intro S hS
  refine ⟨some ⟨g, i, none⟩, cap, by rw [hlen], by omega, .inr ⟨g, i, rfl, p.bg.lt, hS g (.inr rfl), fun j x hj => ?_⟩⟩
  have hjm : j < m := by have := lt_of_get hj; omega
  rw [List.getElem?_take_of_lt hjm, List.getElem?_drop] at hj
  rw [p.bg.cell (i + j)]
  simp [hj]

end Go.Proofs.Ythloffgebebijaa
