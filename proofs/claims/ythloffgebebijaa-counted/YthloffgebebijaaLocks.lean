/- Locks: the numbers under which this program holds sync.Mutex's functions and types, and that it holds them. -/
import Derived.Test.YthloffgebebijaaRows
import Derived.Conc.MuLone
import Derived.KernelRfl
namespace Go.Proofs.Ythloffgebebijaa

abbrev muLink : Go.Conc.Locks.MuLink := { lock := 26, unlock := 27, ilock := 39, iunlock := 40, lockSlow := 57, unlockSlow := 60, disable := 53, enable := 55, acquire := 56, relMerge := 58, cas32 := 54, add32 := 59, tMutex := 89, tIMutex := 87, tPMutex := 108, tPIMutex := 123, tPI32 := 125, tUP := 127, tNoCopy := 84, tU32 := 85 }
theorem muLib : Go.Conc.Locks.MuLib Try.prog muLink :=
  ⟨Try.func26, Try.func27, Try.func39, Try.func40, Try.func53, Try.func55, Try.func56, Try.func58, Try.func54, Try.func59, Try.underlying87, Try.runUnderlying87, Try.sizeOf87, Try.isAgg87, Try.zeroValue87, Try.underlying89, Try.runUnderlying89, Try.sizeOf89, Try.isAgg89, Try.zeroValue89, Try.underlying108, Try.runUnderlying108, Try.sizeOf108, Try.isAgg108, Try.zeroValue108, Try.underlying123, Try.runUnderlying123, Try.sizeOf123, Try.isAgg123, Try.zeroValue123, Try.underlying125, Try.runUnderlying125, Try.sizeOf125, Try.isAgg125, Try.zeroValue125, Try.underlying127, Try.runUnderlying127, Try.sizeOf127, Try.isAgg127, Try.zeroValue127, Try.underlying84, Try.runUnderlying84, Try.sizeOf84, Try.isAgg84, Try.zeroValue84, Try.underlying21, Try.runUnderlying21, Try.sizeOf21, Try.isAgg21, Try.zeroValue21, (by kernel_rfl)⟩

end Go.Proofs.Ythloffgebebijaa
