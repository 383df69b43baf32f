/- Labels as sets of bits. -/
import Derived.Laws.BitsAllLaws
import Derived.Lib.TrailingZeros
namespace Go.Proofs.YtlkjhfkilbfhpaaDoor.Lb
open Go

end Go.Proofs.YtlkjhfkilbfhpaaDoor.Lb
namespace Go.Proofs.YtlkjhfkilbfhpaaDoor.Lb
open Go



end Go.Proofs.YtlkjhfkilbfhpaaDoor.Lb
