/- The reference's Apply: faults, the comparison, every operator. -/
import Derived.Test.YtilholgbepfopaaDoorVRef
namespace Go.Proofs.YtilholgbepfopaaDoor
open Go.RowKit Go.MapKept

end Go.Proofs.YtilholgbepfopaaDoor
