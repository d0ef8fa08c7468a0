/- Own: rows of bytes (or of other elements) that a call has made, grown by appends; what is kept meanwhile. -/
import Derived.Test.YthloffgebebijaaGreatBase
namespace Go.Proofs.YthloffgebebijaaGreat
open Go.RowKit

/-- All blocks below B, and all blocks that are no rows of type e, are as they were. -/
structure KeepBut (e : TypeId) (B : Nat) (w w' : World) : Prop where
  os : w'.os = w.os
  tape : w'.tape = w.tape
  output : w'.output = w.output
  size : w.heap.size ≤ w'.heap.size
  block : ∀ k, k < w.heap.size → (k < B ∨ ∀ c f, w.heap[k]? ≠ some (.cells c e f)) → w'.heap[k]? = w.heap[k]?

theorem KeepBut.refl (e : TypeId) (B : Nat) (w : World) : KeepBut e B w w := ⟨rfl, rfl, rfl, Nat.le_refl _, fun _ _ _ => rfl⟩
theorem KeepBut.trans {e : TypeId} {B : Nat} {a b c : World} (h : KeepBut e B a b) (k : KeepBut e B b c) : KeepBut e B a c :=
  ⟨k.os.trans h.os, k.tape.trans h.tape, k.output.trans h.output, Nat.le_trans h.size k.size, fun i hi hk => by
    have h1 := h.block i hi hk
    refine (k.block i (Nat.lt_of_lt_of_le hi h.size) ?_).trans h1
    rw [h1]; exact hk⟩
theorem KeepBut.of_below {e : TypeId} {B : Nat} {w w' : World} (h : Below w.heap.size w w') : KeepBut e B w w' :=
  ⟨h.os, h.tape, h.output, h.size, fun k hk _ => h.block k hk⟩
theorem KeepBut.below {e : TypeId} {B : Nat} {w w' : World} (h : KeepBut e B w w') (hB : B ≤ w.heap.size) : Below B w w' :=
  ⟨h.os, h.tape, h.output, h.size, fun k hk => h.block k (by omega) (.inl hk)⟩
theorem KeepBut.new {e : TypeId} {B : Nat} (w : World) (o : Obj) : KeepBut e B w (w.alloc o) := .of_below ((Below.refl _ _).alloc (Nat.le_refl _) _)
theorem KeepBut.alloc {e : TypeId} {B : Nat} {a w : World} (h : KeepBut e B a w) (o : Obj) : KeepBut e B a (w.alloc o) := h.trans (.new w o)
theorem KeepBut.drew {e : TypeId} {B : Nat} {a w : World} (h : KeepBut e B a w) : KeepBut e B a w.drew := ⟨h.os, h.tape, h.output, h.size, h.block⟩
theorem KeepBut.mono {e : TypeId} {B B' : Nat} {w w' : World} (h : KeepBut e B w w') (hB : B' ≤ B) : KeepBut e B' w w' :=
  ⟨h.os, h.tape, h.output, h.size, fun k hk h' => h.block k hk (h'.imp (fun x => by omega) id)⟩

theorem Blk.kept {w w' : World} {b : Nat} {c : Array Value} {t e : TypeId} {B : Nat} (h : Blk w b c t) (hk : KeepBut e B w w') (ht : t ≠ e) : Blk w' b c t :=
  (hk.block b h.lt (.inr fun c' f' h' => by unfold Blk at h; rw [h] at h'; simp at h'; exact ht h'.2.1)).trans h

/-- Behind an append to a row that the call owns. -/
theorem KeepBut.grown {e : TypeId} {B base size n : Nat} {w w' : World} {v : Value} {xs : List Value} (hg : w.grownBy w' v.ownBlock) (ho : w.ownsRow base e size v n xs) (hB : B ≤ base) : KeepBut e B w w' := by
  refine ⟨hg.os, hg.tape, hg.output, hg.size, fun k hk h => hg.block k hk fun hh => ?_⟩
  obtain ⟨_, ho⟩ := ho
  rcases ho with ⟨rfl, _⟩ | ⟨g, cap, cur, rfl, hbg, hb, _⟩
  · simp [Value.ownBlock] at hh
  · simp only [Value.ownBlock, Option.some.injEq] at hh
    subst hh
    rcases h with h | h
    · omega
    · exact h cur (0, 0) hb

/-- A row of bytes of the call's own. -/
def Own8 (w : World) (base : Nat) (e : TypeId) (v : Value) (bs : List Int) : Prop := w.ownsRow base e 1 v bs.length (bs.map (Value.int .u8))

theorem Own8.alloc {w : World} {base : Nat} {e : TypeId} {v : Value} {bs : List Int} (h : Own8 w base e v bs) (o : Obj) : Own8 (w.alloc o) base e v bs := World.ownsRow.alloc h o
theorem Own8.slice {w : World} {base : Nat} {e : TypeId} {v : Value} {bs : List Int} (h : Own8 w base e v bs) : ∃ a cap, v = .slice a bs.length cap := by
  obtain ⟨_, ho⟩ := h
  rcases ho with ⟨rfl, hn⟩ | ⟨g, cap, cur, rfl, _⟩
  · exact ⟨none, 0, by rw [hn]⟩
  · exact ⟨_, cap, rfl⟩
theorem Own8.app {w : World} {base : Nat} {e : TypeId} {v : Value} {bs cs : List Int} {n : Nat} {xs : List Value} (h : w.ownsRow base e 1 v n xs) (hn : n = (bs ++ cs).length) (hx : xs = bs.map (Value.int .u8) ++ cs.map (Value.int .u8)) : Own8 w base e v (bs ++ cs) := by
  unfold Own8
  rw [List.map_append, ← hn, ← hx]
  exact h

/-- An owned row stays owned while other blocks (below its base, or of other types) turn. -/
theorem Own8.below {w w' : World} {base : Nat} {e : TypeId} {v : Value} {bs : List Int} (h : Own8 w base e v bs) (hb : Below w.heap.size w w') : Own8 w' base e v bs := by
  obtain ⟨h1, h2⟩ := h
  refine ⟨h1, h2.imp id ?_⟩
  rintro ⟨g, cap, cur, hv, hg, hh, r⟩
  exact ⟨g, cap, cur, hv, hg, (hb.block g (lt_of_block hh)).trans hh, r⟩

theorem Own8.lower {w : World} {base base' : Nat} {e : TypeId} {v : Value} {bs : List Int} (h : Own8 w base e v bs) (hb : base' ≤ base) : Own8 w base' e v bs := by
  obtain ⟨h1, h2⟩ := h
  refine ⟨h1, h2.imp id ?_⟩
  rintro ⟨g, cap, cur, hv, hg, r⟩
  exact ⟨g, cap, cur, hv, by omega, r⟩

end Go.Proofs.YthloffgebebijaaGreat
