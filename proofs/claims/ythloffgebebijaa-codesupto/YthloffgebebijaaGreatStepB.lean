/- StepB: what stands behind the steps of a script: the book holds what came out. -/
import Derived.Test.YthloffgebebijaaGreatPlays
import Derived.Test.YthloffgebebijaaGreatLooks
namespace Go.Proofs.YthloffgebebijaaGreat
open Go.RowKit

/-- Behind n steps: the book holds what came out. -/
def StB (B : Nat) (w : World) (n : Nat) : Prop := ∃ S nb ni ne nl nt, BookAt w S B B (.slice none 0 0) nb ni ne nl nt ∧ nb ≤ n ∧ ni ≤ 2 * n ∧ ne ≤ n ∧ nl ≤ 12 * n ∧ nt ≤ 2 * n

theorem StB.init (w : World) : StB w.heap.size (w.alloc (.cells #[.slice none 0 0, .slice none 0 0, .slice none 0 0, .slice none 0 0, .slice none 0 0, .slice none 0 0] 36)) 0 :=
  ⟨fun k => k = w.heap.size, 0, 0, 0, 0, 0, ⟨fun k hk => ⟨by omega, by simp; omega⟩, rfl, _, _, _, _, _, Blk.new _ _ _, Ents.nil _ _ _ _ _ _ _, Ents.nil _ _ _ _ _ _ _, Ents.nil _ _ _ _ _ _ _, Ents.nil _ _ _ _ _ _ _, Ents.nil _ _ _ _ _ _ _⟩, by omega, by omega, by omega, by omega, by omega⟩
theorem StB.later (B : Nat) (w w' : World) (n : Nat) (h : StB B w n) (hb : Below w.heap.size w w') : StB B w' n := by
  obtain ⟨S, nb, ni, ne, nl, nt, hk, r⟩ := h
  exact ⟨S, nb, ni, ne, nl, nt, hk.later hb, r⟩
theorem StB.looks (B : Nat) (w : World) (n : Nat) (h : StB B w n) (hn : n ≤ 2000001) : Calls Tryz.prog 10 #[.pointer (some ⟨B, 1, none⟩)] w fun e w' => e = .returned (.bool true) ∧ Below w.heap.size w w' := by
  obtain ⟨S, nb, ni, ne, nl, nt, hk, r⟩ := h
  exact looks_true S B B _ nb ni ne nl nt w hk (by omega) (by omega) (by omega) (by omega) (by omega)

end Go.Proofs.YthloffgebebijaaGreat
