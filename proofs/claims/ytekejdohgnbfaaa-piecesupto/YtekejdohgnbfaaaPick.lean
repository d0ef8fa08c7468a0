/- Pick: the walk of tillerkeep.pick, and plain facts on it. -/
import Derived.Test.YtekejdohgnbfaaaRows
import Derived.Test.YtekejdohgnbfaaaBase
namespace Go.Proofs.Ytekejdohgnbfaaa
open Go.RowKit

/-- A number that an int holds. -/
def In64 (x : Int) : Prop := -9223372036854775808 ≤ x ∧ x ≤ 9223372036854775807

/-- Which of n things the raw number c speaks of. -/
def pk (c n : Int) : Int := (if c < 0 then -(c + 1) else c) % n
theorem pk_lo (c n : Int) (h : 0 < n) : 0 ≤ pk c n := Int.emod_nonneg _ (by omega)
theorem pk_hi (c n : Int) (h : 0 < n) : pk c n < n := Int.emod_lt_of_pos _ h

set_option maxRecDepth 100000 in
set_option maxHeartbeats 400000 in
theorem keepPick_any (c n : Int) (w : World) (hc : In64 c) (hn : 0 < n) (hn' : n ≤ 9223372036854775807) :
    Calls Try.prog 12 #[.int .i64 c, .int .i64 n] w fun e w' => e = .returned (.int .i64 (pk c n)) ∧ w = w' := by
  obtain ⟨h1, h2⟩ := hc
  have hz : (n == 0) = false := by simp; omega
  by_cases h : c < 0
  · go_enter Try.func12, Try.ntmps12
    go_wp2
    go_ret
    refine ⟨ret_int ?_, rfl⟩
    rw [pk, if_pos h, ← Int.tmod_eq_emod_of_nonneg (by omega), Int.neg_tmod]
  · go_enter Try.func12, Try.ntmps12
    go_wp2
    go_ret
    refine ⟨ret_int ?_, rfl⟩
    rw [pk, if_neg (by omega)]

end Go.Proofs.Ytekejdohgnbfaaa
