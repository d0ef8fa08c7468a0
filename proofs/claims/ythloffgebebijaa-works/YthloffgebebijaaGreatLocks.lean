/- Locks: the numbers under which this program holds sync.Mutex's functions and types, and that it holds them. -/
import Derived.Test.YthloffgebebijaaGreatRows
import Derived.Conc.MuLone
import Derived.KernelRfl
namespace Go.Proofs.YthloffgebebijaaGreat

abbrev muLink : Go.Conc.Locks.MuLink := { lock := 68, unlock := 69, ilock := 86, iunlock := 87, lockSlow := 106, unlockSlow := 109, disable := 102, enable := 104, acquire := 105, relMerge := 107, cas32 := 103, add32 := 108, tMutex := 136, tIMutex := 134, tPMutex := 159, tPIMutex := 175, tPI32 := 177, tUP := 179, tNoCopy := 131, tU32 := 132 }
theorem muLib : Go.Conc.Locks.MuLib Tryz.prog muLink :=
  ⟨Tryz.func68, Tryz.func69, Tryz.func86, Tryz.func87, Tryz.func102, Tryz.func104, Tryz.func105, Tryz.func107, Tryz.func103, Tryz.func108, Tryz.underlying134, Tryz.runUnderlying134, Tryz.sizeOf134, Tryz.isAgg134, Tryz.zeroValue134, Tryz.underlying136, Tryz.runUnderlying136, Tryz.sizeOf136, Tryz.isAgg136, Tryz.zeroValue136, Tryz.underlying159, Tryz.runUnderlying159, Tryz.sizeOf159, Tryz.isAgg159, Tryz.zeroValue159, Tryz.underlying175, Tryz.runUnderlying175, Tryz.sizeOf175, Tryz.isAgg175, Tryz.zeroValue175, Tryz.underlying177, Tryz.runUnderlying177, Tryz.sizeOf177, Tryz.isAgg177, Tryz.zeroValue177, Tryz.underlying179, Tryz.runUnderlying179, Tryz.sizeOf179, Tryz.isAgg179, Tryz.zeroValue179, Tryz.underlying131, Tryz.runUnderlying131, Tryz.sizeOf131, Tryz.isAgg131, Tryz.zeroValue131, Tryz.underlying21, Tryz.runUnderlying21, Tryz.sizeOf21, Tryz.isAgg21, Tryz.zeroValue21, (by kernel_rfl)⟩

end Go.Proofs.YthloffgebebijaaGreat
