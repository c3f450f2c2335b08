import Derived.Test.YtbgapbaeegloaaaDoorM
namespace Go.Proofs.YtbgapbaeegloaaaDoor
open Go.RowKit Go.Maps

end Go.Proofs.YtbgapbaeegloaaaDoor
