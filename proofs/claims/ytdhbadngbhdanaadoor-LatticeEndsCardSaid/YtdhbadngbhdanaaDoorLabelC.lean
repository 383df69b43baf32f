/- Walks: the functions of the reference of package label that make slices, and two of the kit. -/
import Derived.Test.YtdhbadngbhdanaaDoorLabelB
namespace Go.Proofs.YtdhbadngbhdanaaDoor
open Go.RowKit
open Lb

theorem infoInt : (Tryd.prog.info? 3).map (fun i => (i.zero, i.size, i.bytes)) = some (some (.int .i64 0), 1, 8) := by kernel_rfl

end Go.Proofs.YtdhbadngbhdanaaDoor
