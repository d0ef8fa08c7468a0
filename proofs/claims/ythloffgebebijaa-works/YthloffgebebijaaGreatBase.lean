/- Base: small facts on worlds, blocks and lists that the walks of this seat use. No function of the program is named here. -/
import Derived.WalkKit
import Derived.WalkSpells
import Derived.WalkLawsBesides
import Derived.Handy
namespace Go.Proofs.YthloffgebebijaaGreat
open Go.RowKit

theorem hide {p : Prop} (h : p) : Hid p := h

theorem ret_bool {a b : Bool} (h : a = b) : Ending.returned (.bool a) = .returned (.bool b) := by rw [h]
theorem ret_int {k : IntKind} {a b : Int} (h : a = b) : Ending.returned (.int k a) = .returned (.int k b) := by rw [h]

theorem drop_cons {α : Type} {l : List α} {k : Nat} {x : α} (h : l[k]? = some x) : l.drop k = x :: l.drop (k + 1) := by
  obtain ⟨hk, rfl⟩ := List.getElem?_eq_some_iff.1 h
  exact List.drop_eq_getElem_cons hk
theorem get_of_lt {α : Type} {l : List α} {k : Nat} (h : k < l.length) : ∃ x, l[k]? = some x := ⟨l[k], List.getElem?_eq_getElem h⟩
theorem lt_of_get {α : Type} {l : List α} {k : Nat} {x : α} (h : l[k]? = some x) : k < l.length := (List.getElem?_eq_some_iff.1 h).1
theorem take_snoc {α : Type} {l : List α} {k : Nat} {x : α} (h : l[k]? = some x) : l.take (k + 1) = l.take k ++ [x] := by
  obtain ⟨hk, rfl⟩ := List.getElem?_eq_some_iff.1 h
  rw [List.take_succ_eq_append_getElem hk]

/-- A block of cells, none of them frozen. -/
def Blk (w : World) (b : Nat) (c : Array Value) (t : TypeId) : Prop := w.heap[b]? = some (.cells c t (0, 0))

theorem Blk.lt {w : World} {b : Nat} {c : Array Value} {t : TypeId} (h : Blk w b c t) : b < w.heap.size := lt_of_block h
theorem Blk.cell {w : World} {b : Nat} {c : Array Value} {t : TypeId} (h : Blk w b c t) (o : Nat) : w.cell? ⟨b, o, none⟩ = c[o]? := cell_of_row w b o c t _ h
theorem Blk.free {w : World} {b : Nat} {c : Array Value} {t : TypeId} (h : Blk w b c t) (o : Nat) : w.frozen? ⟨b, o, none⟩ = false := frozen_of_row w b o c t h
theorem Blk.new (w : World) (c : Array Value) (t : TypeId) : Blk (w.alloc (.cells c t)) w.heap.size c t := heap_alloc_new w _
theorem Blk.alloc {w : World} {b : Nat} {c : Array Value} {t : TypeId} (h : Blk w b c t) (o : Obj) : Blk (w.alloc o) b c t := (Below.heap_alloc w o b h.lt).trans h
theorem Blk.drew {w : World} {b : Nat} {c : Array Value} {t : TypeId} (h : Blk w b c t) : Blk w.drew b c t := h
theorem Blk.set {w : World} {b : Nat} {c : Array Value} {t : TypeId} (h : Blk w b c t) (o : Nat) (v : Value) : Blk (w.setCell ⟨b, o, none⟩ v) b (c.setIfInBounds o v) t := by
  unfold Blk at h ⊢
  simp only [World.setCell, Array.getElem?_modify, h, if_true, Option.map_some]
  rfl
theorem Blk.other {w : World} {b : Nat} {c : Array Value} {t : TypeId} (h : Blk w b c t) {a : Addr} (ha : b ≠ a.block) (v : Value) : Blk (w.setCell a v) b c t :=
  (heap_setCell_other w a b v ha).trans h
theorem Blk.later {w w' : World} {B b : Nat} {c : Array Value} {t : TypeId} (h : Blk w b c t) (hb : Below B w w') (hlt : b < B) : Blk w' b c t := (hb.block b hlt).trans h
theorem Blk.inj {w : World} {b : Nat} {c c' : Array Value} {t t' : TypeId} (h : Blk w b c t) (h' : Blk w b c' t') : c = c' ∧ t = t' := by
  unfold Blk at h h'
  rw [h] at h'
  simp at h'
  exact h'

/-- Cells of a world, from an offset on. -/
def Cells (w : World) (b o : Nat) (xs : List Value) : Prop := ∀ i v, xs[i]? = some v → w.cell? ⟨b, o + i, none⟩ = some v

theorem Cells.later {w w' : World} {B b o : Nat} {xs : List Value} (h : Cells w b o xs) (hb : Below B w w') (hlt : b < B) : Cells w' b o xs :=
  fun i v hi => (hb.cell (p := ⟨b, o + i, none⟩) hlt).trans (h i v hi)

theorem Below.of_le {B : Nat} {w w' : World} (h : Below w.heap.size w w') (hB : B ≤ w.heap.size) : Below B w w' := h.mono hB

/-- The post that lets a piece of code by at its end alone. -/
def OnlyNormal (R : Act → World → Prop) : Exit → Act → World → Prop
  | .normal, a, w => R a w
  | _, _, _ => False
theorem OnlyNormal.imp {R : Act → World → Prop} {Q : Exit → Act → World → Prop} (h : ∀ a w, R a w → Q .normal a w) : ∀ e a w, OnlyNormal R e a w → Q e a w := fun e a w hr => by
  cases e <;> first | exact h a w hr | exact (hr : False).elim

/-- A piece of code that comes, on every way, to one and the same frame and world. -/
theorem wp_once {P : Program} {c : Code} {Q : Exit → Act → World → Prop} {a : Act} {w : World} (A : Act) (W : World) (h : c.wp P (OnlyNormal fun a' w' => a' = A ∧ w' = W) a w) (h2 : Q .normal A W) : c.wp P Q a w :=
  wp_mono h (OnlyNormal.imp (by rintro a' w' ⟨rfl, rfl⟩; exact h2))

/-- A piece of code that comes, on every way, to one frame and world of a family. -/
theorem wp_some3 {P : Program} {c : Code} {Q : Exit → Act → World → Prop} {a : Act} {w : World} {α β : Type} (F : α → β → World → Prop) (A : α → β → World → Act) (W : α → β → World → World)
    (h : c.wp P (OnlyNormal fun a' w' => ∃ x y z, F x y z ∧ a' = A x y z ∧ w' = W x y z) a w) (h2 : ∀ x y z, F x y z → Q .normal (A x y z) (W x y z)) : c.wp P Q a w :=
  wp_mono h (OnlyNormal.imp (by rintro a' w' ⟨x, y, z, hf, rfl, rfl⟩; exact h2 x y z hf))

/-- The same, of the worlds that a call may leave. -/
theorem wp_someW {P : Program} {c : Code} {Q : Exit → Act → World → Prop} {a : Act} {w : World} (F : World → Prop) (A : World → Act) (W : World → World)
    (h : c.wp P (OnlyNormal fun a' w' => ∃ z, F z ∧ a' = A z ∧ w' = W z) a w) (h2 : ∀ z, F z → Q .normal (A z) (W z)) : c.wp P Q a w :=
  wp_mono h (OnlyNormal.imp (by rintro a' w' ⟨z, hf, rfl, rfl⟩; exact h2 z hf))

end Go.Proofs.YthloffgebebijaaGreat
