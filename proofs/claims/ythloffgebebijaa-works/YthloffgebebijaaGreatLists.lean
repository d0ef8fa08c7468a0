/- Lists: small facts on lists and on ints in memory. -/
import Derived.Test.YthloffgebebijaaGreatBytesA
namespace Go.Proofs.YthloffgebebijaaGreat
open Go.RowKit

theorem info_int : (Tryz.prog.info? 3).map (fun i => (i.zero, i.size, i.bytes)) = some (some (.int .i64 0), 1, 8) := by kernel_rfl
theorem set_next {α : Type} {xs : List α} {k r : Nat} {a b : α} (h : xs.length = k) : (xs ++ List.replicate (r + 1) b).set k a = xs ++ [a] ++ List.replicate r b := by
  rw [List.set_append_right _ _ (by omega), h]
  simp [List.replicate_succ]
theorem get_set_self {a : Array Value} {i : Nat} {v : Value} (h : i < a.size) : (a.setIfInBounds i v)[i]? = some v := by
  rw [Array.getElem?_setIfInBounds]
  simp [h]

end Go.Proofs.YthloffgebebijaaGreat
