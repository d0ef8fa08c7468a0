/- SetA: raw tasks; rows of the call's own with structs; what settings makes. -/
import Derived.Test.YthloffgebebijaaReadK
import Derived.Test.YthloffgebebijaaPickA
namespace Go.Proofs.Ythloffgebebijaa
open Go.RowKit

/-- A task out of raw numbers. -/
structure Raw5 where
  cost : Int
  due : Int
  window : Int
  count : Int
  more : Int

def Raw5.fits (r : Raw5) : Prop := In64 r.cost ∧ In64 r.due ∧ In64 r.window ∧ In64 r.count ∧ In64 r.more

def RawAt (w : World) (b o : Nat) (r : Raw5) : Prop :=
  w.cell? ⟨b, o, none⟩ = some (.int .i64 r.cost) ∧ w.cell? ⟨b, o + 1, none⟩ = some (.int .i64 r.due) ∧ w.cell? ⟨b, o + 2, none⟩ = some (.int .i64 r.window) ∧ w.cell? ⟨b, o + 3, none⟩ = some (.int .i64 r.count) ∧ w.cell? ⟨b, o + 4, none⟩ = some (.int .i64 r.more)

def Raws (w : World) (B : Nat) (v : Value) (rs : List Raw5) : Prop :=
  ∃ a cap, v = .slice a rs.length cap ∧ (rs = [] ∨ ∃ b o, a = some ⟨b, o, none⟩ ∧ b < B ∧ ∀ i r, rs[i]? = some r → RawAt w b (o + i * 5) r)

theorem RawAt.later {w w' : World} {B b o : Nat} {r : Raw5} (h : RawAt w b o r) (hb : Below B w w') (hlt : b < B) : RawAt w' b o r := by
  obtain ⟨h0, h1, h2, h3, h4⟩ := h
  exact ⟨(hb.cell (p := ⟨b, o, none⟩) hlt).trans h0, (hb.cell (p := ⟨b, o + 1, none⟩) hlt).trans h1, (hb.cell (p := ⟨b, o + 2, none⟩) hlt).trans h2, (hb.cell (p := ⟨b, o + 3, none⟩) hlt).trans h3, (hb.cell (p := ⟨b, o + 4, none⟩) hlt).trans h4⟩

/-- What settings makes of a raw task. -/
def mkTask (easy : Bool) (r : Raw5) : Tk :=
  ⟨if easy then 1 + pk r.cost 8 else 1 + pk r.cost 50, if easy then 60 + pk r.due 300 else 1 + pk r.due 400,
    (if easy then 40 + pk r.window 300 else 1 + pk r.window 400, 1 + pk r.count 3) ::
      (if r.more.tmod 2 = 0 then [((if easy then 40 + pk r.window 300 else 1 + pk r.window 400) + 1 + pk r.more 100, 1 + pk r.count 3 + 1)] else [])⟩

def mkTasks (easy : Bool) (rs : List Raw5) : List Tk := if rs = [] then [⟨5, 30, [(20, 1)]⟩] else (rs.take 6).map (mkTask easy)

def mkCfg (lines room price : Int) (rs : List Raw5) (easy : Bool) : Cfg :=
  ⟨1 + pk lines 4, 1 + pk room 40, 1 + pk price 3, pk (price.tdiv 3) 4, pk (price.tdiv 12) 3, mkTasks easy rs⟩

/-! Rows of the call's own. -/
theorem owns_keptBut {w w' : World} {base : Nat} {e e' : TypeId} {size n B : Nat} {v : Value} {xs : List Value} (h : w.ownsRow base e size v n xs) (hk : KeepBut e' B w w') (hne : e ≠ e') : w'.ownsRow base e size v n xs := by
  obtain ⟨h1, h2⟩ := h
  refine ⟨h1, h2.imp id ?_⟩
  rintro ⟨g, cap, cur, hv, hg, hh, r⟩
  exact ⟨g, cap, cur, hv, hg, Blk.kept hh hk hne, r⟩
theorem owns_below {w w' : World} {base : Nat} {e : TypeId} {size n : Nat} {v : Value} {xs : List Value} (h : w.ownsRow base e size v n xs) (hb : Below w.heap.size w w') : w'.ownsRow base e size v n xs := by
  obtain ⟨h1, h2⟩ := h
  refine ⟨h1, h2.imp id ?_⟩
  rintro ⟨g, cap, cur, hv, hg, hh, r⟩
  exact ⟨g, cap, cur, hv, hg, (hb.block g (lt_of_block hh)).trans hh, r⟩
theorem owns_lower {w : World} {base base' : Nat} {e : TypeId} {size n : Nat} {v : Value} {xs : List Value} (h : w.ownsRow base e size v n xs) (hb : base' ≤ base) : w.ownsRow base' e size v n xs := by
  obtain ⟨h1, h2⟩ := h
  refine ⟨h1, h2.imp id ?_⟩
  rintro ⟨g, cap, cur, hv, hg, r⟩
  exact ⟨g, cap, cur, hv, by omega, r⟩
/-- A store into a block that is none of the row's. -/
theorem owns_other {w : World} {base : Nat} {e t : TypeId} {size n L o : Nat} {v x : Value} {xs : List Value} {c : Array Value} (h : w.ownsRow base e size v n xs) (hL : Blk w L c t) (hne : e ≠ t) : (w.setCell ⟨L, o, none⟩ x).ownsRow base e size v n xs := by
  obtain ⟨h1, h2⟩ := h
  refine ⟨h1, h2.imp id ?_⟩
  rintro ⟨g, cap, cur, hv, hg, hh, r⟩
  refine ⟨g, cap, cur, hv, hg, Blk.other hh (fun e' => ?_) x, r⟩
  simp only at e'
  subst e'
  exact hne (Blk.inj hh hL).2

def OwnL (w : World) (base : Nat) (v : Value) (ls : List (Int × Int)) : Prop := w.ownsRow base 74 2 v ls.length (flat2 ls)

theorem owns_slice {w : World} {base : Nat} {e : TypeId} {size n : Nat} {v : Value} {xs : List Value} (h : w.ownsRow base e size v n xs) : ∃ a cap, v = .slice a n cap := by
  obtain ⟨_, ho⟩ := h
  rcases ho with ⟨rfl, hn⟩ | ⟨g, cap, cur, rfl, _⟩
  · exact ⟨none, 0, by rw [hn]⟩
  · exact ⟨_, cap, rfl⟩

theorem OwnL.lims {w : World} {base : Nat} {v : Value} {ls : List (Int × Int)} (h : OwnL w base v ls) : Lims w w.heap.size v ls := by
  unfold OwnL at h
  have h' := h
  obtain ⟨_, ho⟩ := h'
  rcases ho with ⟨rfl, hn⟩ | ⟨g, cap, cur, rfl, hg, hh, hcap, _⟩
  · have : ls = [] := List.eq_nil_of_length_eq_zero hn
    subst this
    exact ⟨none, 0, rfl, .inl rfl⟩
  · refine ⟨_, cap, rfl, .inr ⟨g, 0, rfl, lt_of_block hh, fun i l hi => ?_⟩⟩
    have hlt := lt_of_get hi
    have := flat2_get ls i l hi
    have c0 := h.cellAt (i * 2) (by omega)
    have c1 := h.cellAt (i * 2 + 1) (by omega)
    rw [Nat.mul_comm] at this
    exact ⟨by rw [Nat.zero_add, c0]; exact this.1, by rw [Nat.zero_add, c1]; exact this.2⟩

def TkL (w : World) (base : Nat) (e : Int × Int × Value) (t : Tk) : Prop := e.1 = t.cost ∧ e.2.1 = t.due ∧ OwnL w base e.2.2 t.lims
theorem TkL.keptBut {w w' : World} {base B : Nat} {e : Int × Int × Value} {t : Tk} {e' : TypeId} (h : TkL w base e t) (hk : KeepBut e' B w w') (hne : 74 ≠ e') : TkL w' base e t := ⟨h.1, h.2.1, owns_keptBut h.2.2 hk hne⟩
theorem TkL.below {w w' : World} {base : Nat} {e : Int × Int × Value} {t : Tk} (h : TkL w base e t) (hb : Below w.heap.size w w') : TkL w' base e t := ⟨h.1, h.2.1, owns_below h.2.2 hb⟩
theorem TkL.other {w : World} {base L o : Nat} {e : Int × Int × Value} {t : Tk} {c : Array Value} {ty : TypeId} {x : Value} (h : TkL w base e t) (hL : Blk w L c ty) (hne : 74 ≠ ty) : TkL (w.setCell ⟨L, o, none⟩ x) base e t := ⟨h.1, h.2.1, owns_other h.2.2 hL hne⟩

/-- Tasks of the call's own, a row that was grown by appends. -/
def OwnT (w : World) (base : Nat) (v : Value) (ts : List Tk) : Prop :=
  ∃ es : List (Int × Int × Value), w.ownsRow base 61 3 v es.length (flat3 es) ∧ es.length = ts.length ∧ ∀ (i : Nat) (e : Int × Int × Value) (t : Tk), es[i]? = some e → ts[i]? = some t → TkL w base e t

theorem OwnT.below {w w' : World} {base : Nat} {v : Value} {ts : List Tk} (h : OwnT w base v ts) (hb : Below w.heap.size w w') : OwnT w' base v ts := by
  obtain ⟨es, h1, h2, h3⟩ := h
  exact ⟨es, owns_below h1 hb, h2, fun i e t he ht => (h3 i e t he ht).below hb⟩
theorem OwnT.other {w : World} {base L o : Nat} {v x : Value} {ts : List Tk} {c : Array Value} {ty : TypeId} (h : OwnT w base v ts) (hL : Blk w L c ty) (h1 : 74 ≠ ty) (h2 : 61 ≠ ty) : OwnT (w.setCell ⟨L, o, none⟩ x) base v ts := by
  obtain ⟨es, o1, o2, o3⟩ := h
  exact ⟨es, owns_other o1 hL h2, o2, fun i e t he ht => (o3 i e t he ht).other hL h1⟩
theorem OwnT.tasks {w : World} {base : Nat} {v : Value} {ts : List Tk} (h : OwnT w base v ts) : Tasks w w.heap.size v ts := by
  obtain ⟨es, h, hl, hr⟩ := h
  have h' := h
  obtain ⟨_, ho⟩ := h'
  rcases ho with ⟨rfl, hn⟩ | ⟨g, cap, cur, rfl, hg, hh, hcap, _⟩
  · have : ts = [] := List.eq_nil_of_length_eq_zero (by omega)
    subst this
    exact ⟨none, 0, by simp, .inl rfl⟩
  · refine ⟨_, cap, by rw [hl], .inr ⟨g, 0, rfl, lt_of_block hh, fun i t hi => ?_⟩⟩
    obtain ⟨e, he⟩ := get_of_lt (l := es) (k := i) (by have := lt_of_get hi; omega)
    have hlt := lt_of_get he
    have hrel := hr i e t he hi
    have := flat3_get es i e he
    have c0 := h.cellAt (i * 3) (by omega)
    have c1 := h.cellAt (i * 3 + 1) (by omega)
    have c2 := h.cellAt (i * 3 + 2) (by omega)
    refine ⟨?_, ?_, e.2.2, ?_, hrel.2.2.lims⟩
    · rw [Nat.zero_add, c0, ← hrel.1]; exact this.1
    · rw [Nat.zero_add, c1, ← hrel.2.1]; exact this.2.1
    · rw [Nat.zero_add, c2]; exact this.2.2
theorem flat3_app (es : List (Int × Int × Value)) (e : Int × Int × Value) : flat3 (es ++ [e]) = flat3 es ++ [.int .i64 e.1, .int .i64 e.2.1, e.2.2] := by simp [flat3, List.flatMap_append]
theorem flat2_app (ls : List (Int × Int)) (l : Int × Int) : flat2 (ls ++ [l]) = flat2 ls ++ [.int .i64 l.1, .int .i64 l.2] := by simp [flat2, List.flatMap_append]

/-- Behind an append of one task to a row of the call's own. -/
theorem OwnT.grown {w w' : World} {base : Nat} {v v' : Value} {ts : List Tk} {es : List (Int × Int × Value)} {t : Tk} {e : Int × Int × Value} (ho : w.ownsRow base 61 3 v es.length (flat3 es)) (hl : es.length = ts.length)
    (hr : ∀ (i : Nat) (e : Int × Int × Value) (t : Tk), es[i]? = some e → ts[i]? = some t → TkL w base e t) (he : TkL w base e t)
    (ho' : w'.ownsRow base 61 3 v' (es.length + 1) (flat3 es ++ [.int .i64 e.1, .int .i64 e.2.1, e.2.2])) (hg : w.grownBy w' v.ownBlock) : OwnT w' base v' (ts ++ [t]) := by
  have hk := KeepBut.grown hg ho (Nat.le_refl _)
  refine ⟨es ++ [e], ?_, by simp [hl], snoc_rel hl (fun i e t h1 h2 => (hr i e t h1 h2).keptBut hk (by decide)) (he.keptBut hk (by decide))⟩
  rw [flat3_app]
  simpa using ho'

end Go.Proofs.Ythloffgebebijaa
