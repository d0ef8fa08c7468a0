/- PickA: which of n things a raw number speaks of, plain. No function of the program is named here. -/
import Derived.Test.YthloffgebebijaaGreatBase
namespace Go.Proofs.YthloffgebebijaaGreat
open Go.RowKit

/-- A number that an int holds. -/
def In64 (x : Int) : Prop := -9223372036854775808 ≤ x ∧ x ≤ 9223372036854775807

/-- Which of n things the raw number c speaks of. -/
def pk (c n : Int) : Int := (if c < 0 then -(c + 1) else c) % n
theorem pk_lo (c n : Int) (h : 0 < n) : 0 ≤ pk c n := Int.emod_nonneg _ (by omega)
theorem pk_hi (c n : Int) (h : 0 < n) : pk c n < n := Int.emod_lt_of_pos _ h

end Go.Proofs.YthloffgebebijaaGreat
