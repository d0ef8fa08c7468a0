/- DrewN: what lies below is as it was behind draws. -/
import Derived.Test.YthloffgebebijaaGreatRows
import Derived.Test.YthloffgebebijaaGreatData
import Derived.Deep.QuietTactic
import Derived.BigQuiet
namespace Go.Proofs.YthloffgebebijaaGreat
open Go.RowKit

theorem Below.drewN {B : Nat} {a w : World} (h : Below B a w) (n : Nat) : Below B a (w.drewN n) := ⟨h.os, h.tape, h.output, h.size, h.block⟩

end Go.Proofs.YthloffgebebijaaGreat
