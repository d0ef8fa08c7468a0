/- Pick: the walk of tillerkeep.pick. -/
import Derived.Test.YthloffgebebijaaRows
import Derived.Test.YthloffgebebijaaPickA
namespace Go.Proofs.Ythloffgebebijaa
open Go.RowKit

set_option maxRecDepth 100000 in
set_option maxHeartbeats 400000 in
theorem keepPick_any (c n : Int) (w : World) (hc : In64 c) (hn : 0 < n) (hn' : n ≤ 9223372036854775807) :
    Calls Try.prog 12 #[.int .i64 c, .int .i64 n] w fun e w' => e = .returned (.int .i64 (pk c n)) ∧ w = w' := by
  obtain ⟨h1, h2⟩ := hc
  have hz : (n == 0) = false := by simp; omega
  by_cases h : c < 0
  · go_enter Try.func12, Try.ntmps12
    go_wp2
    go_ret
    refine ⟨ret_int ?_, rfl⟩
    rw [pk, if_pos h, ← Int.tmod_eq_emod_of_nonneg (by omega), Int.neg_tmod]
  · go_enter Try.func12, Try.ntmps12
    go_wp2
    go_ret
    refine ⟨ret_int ?_, rfl⟩
    rw [pk, if_neg (by omega)]

end Go.Proofs.Ythloffgebebijaa
